/-
  What the last text of this claim leans on, part 42: Tb1, Tb2, Td5.
-/
import Derived.Test.YtpajdmhgonmgoaaDoorYt20
import Derived.Test.YtpajdmhgonmgoaaDoorYt35
import Derived.Test.YtpajdmhgonmgoaaDoorYt37
import Derived.Test.YtpajdmhgonmgoaaDoorYt41
namespace Go.Proofs.YtpajdmhgonmgoaaDoor
open Go.RowKit
set_option linter.unusedVariables false
open Go.Conc Go.ConcN Go.RowKit
set_option linter.unusedSimpArgs false
def sandZ (f : FuncId) : Bool := [5, 6, 8, 9, 11, 12, 13, 14, 15, 16, 17, 19, 20, 21, 25, 26, 27, 28, 29, 31, 32, 33, 34, 43, 48].contains f
theorem tz0 : ∃ fn c, Tryd.prog.funcs[5]? = some fn ∧ (fn.name == "runtime.NumGoroutine") = false ∧ fn.body = some c ∧ zC Tryd.prog sandZ c = true :=
  ⟨_, _, Tryd.func5, by decide +kernel, rfl, by decide +kernel⟩
theorem tz1 : ∃ fn c, Tryd.prog.funcs[6]? = some fn ∧ (fn.name == "runtime.NumGoroutine") = false ∧ fn.body = some c ∧ zC Tryd.prog sandZ c = true :=
  ⟨_, _, Tryd.func6, by decide +kernel, rfl, by decide +kernel⟩
theorem tz2 : ∃ fn c, Tryd.prog.funcs[8]? = some fn ∧ (fn.name == "runtime.NumGoroutine") = false ∧ fn.body = some c ∧ zC Tryd.prog sandZ c = true :=
  ⟨_, _, Tryd.func8, by decide +kernel, rfl, by decide +kernel⟩
theorem tz3 : ∃ fn c, Tryd.prog.funcs[9]? = some fn ∧ (fn.name == "runtime.NumGoroutine") = false ∧ fn.body = some c ∧ zC Tryd.prog sandZ c = true :=
  ⟨_, _, Tryd.func9, by decide +kernel, rfl, by decide +kernel⟩
theorem tz4 : ∃ fn c, Tryd.prog.funcs[11]? = some fn ∧ (fn.name == "runtime.NumGoroutine") = false ∧ fn.body = some c ∧ zC Tryd.prog sandZ c = true :=
  ⟨_, _, Tryd.func11, by decide +kernel, rfl, by decide +kernel⟩
theorem tz5 : ∃ fn c, Tryd.prog.funcs[12]? = some fn ∧ (fn.name == "runtime.NumGoroutine") = false ∧ fn.body = some c ∧ zC Tryd.prog sandZ c = true :=
  ⟨_, _, Tryd.func12, by decide +kernel, rfl, by decide +kernel⟩
theorem tz6 : ∃ fn c, Tryd.prog.funcs[13]? = some fn ∧ (fn.name == "runtime.NumGoroutine") = false ∧ fn.body = some c ∧ zC Tryd.prog sandZ c = true :=
  ⟨_, _, Tryd.func13, by decide +kernel, rfl, by decide +kernel⟩
theorem tz7 : ∃ fn c, Tryd.prog.funcs[14]? = some fn ∧ (fn.name == "runtime.NumGoroutine") = false ∧ fn.body = some c ∧ zC Tryd.prog sandZ c = true :=
  ⟨_, _, Tryd.func14, by decide +kernel, rfl, by decide +kernel⟩
theorem tz8 : ∃ fn c, Tryd.prog.funcs[15]? = some fn ∧ (fn.name == "runtime.NumGoroutine") = false ∧ fn.body = some c ∧ zC Tryd.prog sandZ c = true :=
  ⟨_, _, Tryd.func15, by decide +kernel, rfl, by decide +kernel⟩
theorem tz9 : ∃ fn c, Tryd.prog.funcs[16]? = some fn ∧ (fn.name == "runtime.NumGoroutine") = false ∧ fn.body = some c ∧ zC Tryd.prog sandZ c = true :=
  ⟨_, _, Tryd.func16, by decide +kernel, rfl, by decide +kernel⟩
theorem tz10 : ∃ fn c, Tryd.prog.funcs[17]? = some fn ∧ (fn.name == "runtime.NumGoroutine") = false ∧ fn.body = some c ∧ zC Tryd.prog sandZ c = true :=
  ⟨_, _, Tryd.func17, by decide +kernel, rfl, by decide +kernel⟩
theorem tz11 : ∃ fn c, Tryd.prog.funcs[19]? = some fn ∧ (fn.name == "runtime.NumGoroutine") = false ∧ fn.body = some c ∧ zC Tryd.prog sandZ c = true :=
  ⟨_, _, Tryd.func19, by decide +kernel, rfl, by decide +kernel⟩
theorem tz12 : ∃ fn c, Tryd.prog.funcs[20]? = some fn ∧ (fn.name == "runtime.NumGoroutine") = false ∧ fn.body = some c ∧ zC Tryd.prog sandZ c = true :=
  ⟨_, _, Tryd.func20, by decide +kernel, rfl, by decide +kernel⟩
theorem tz13 : ∃ fn c, Tryd.prog.funcs[21]? = some fn ∧ (fn.name == "runtime.NumGoroutine") = false ∧ fn.body = some c ∧ zC Tryd.prog sandZ c = true :=
  ⟨_, _, Tryd.func21, by decide +kernel, rfl, by decide +kernel⟩
theorem tz14 : ∃ fn c, Tryd.prog.funcs[25]? = some fn ∧ (fn.name == "runtime.NumGoroutine") = false ∧ fn.body = some c ∧ zC Tryd.prog sandZ c = true :=
  ⟨_, _, Tryd.func25, by decide +kernel, rfl, by decide +kernel⟩
theorem tz15 : ∃ fn c, Tryd.prog.funcs[26]? = some fn ∧ (fn.name == "runtime.NumGoroutine") = false ∧ fn.body = some c ∧ zC Tryd.prog sandZ c = true :=
  ⟨_, _, Tryd.func26, by decide +kernel, rfl, by decide +kernel⟩
theorem tz16 : ∃ fn c, Tryd.prog.funcs[27]? = some fn ∧ (fn.name == "runtime.NumGoroutine") = false ∧ fn.body = some c ∧ zC Tryd.prog sandZ c = true :=
  ⟨_, _, Tryd.func27, by decide +kernel, rfl, by decide +kernel⟩
theorem tz17 : ∃ fn c, Tryd.prog.funcs[28]? = some fn ∧ (fn.name == "runtime.NumGoroutine") = false ∧ fn.body = some c ∧ zC Tryd.prog sandZ c = true :=
  ⟨_, _, Tryd.func28, by decide +kernel, rfl, by decide +kernel⟩
theorem tz18 : ∃ fn c, Tryd.prog.funcs[29]? = some fn ∧ (fn.name == "runtime.NumGoroutine") = false ∧ fn.body = some c ∧ zC Tryd.prog sandZ c = true :=
  ⟨_, _, Tryd.func29, by decide +kernel, rfl, by decide +kernel⟩
theorem tz19 : ∃ fn c, Tryd.prog.funcs[31]? = some fn ∧ (fn.name == "runtime.NumGoroutine") = false ∧ fn.body = some c ∧ zC Tryd.prog sandZ c = true :=
  ⟨_, _, Tryd.func31, by decide +kernel, rfl, by decide +kernel⟩
theorem tz20 : ∃ fn c, Tryd.prog.funcs[32]? = some fn ∧ (fn.name == "runtime.NumGoroutine") = false ∧ fn.body = some c ∧ zC Tryd.prog sandZ c = true :=
  ⟨_, _, Tryd.func32, by decide +kernel, rfl, by decide +kernel⟩
theorem tz21 : ∃ fn c, Tryd.prog.funcs[33]? = some fn ∧ (fn.name == "runtime.NumGoroutine") = false ∧ fn.body = some c ∧ zC Tryd.prog sandZ c = true :=
  ⟨_, _, Tryd.func33, by decide +kernel, rfl, by decide +kernel⟩
theorem tz22 : ∃ fn c, Tryd.prog.funcs[34]? = some fn ∧ (fn.name == "runtime.NumGoroutine") = false ∧ fn.body = some c ∧ zC Tryd.prog sandZ c = true :=
  ⟨_, _, Tryd.func34, by decide +kernel, rfl, by decide +kernel⟩
theorem tz23 : ∃ fn c, Tryd.prog.funcs[43]? = some fn ∧ (fn.name == "runtime.NumGoroutine") = false ∧ fn.body = some c ∧ zC Tryd.prog sandZ c = true :=
  ⟨_, _, Tryd.func43, by decide +kernel, rfl, by decide +kernel⟩
theorem tz24 : ∃ fn c, Tryd.prog.funcs[48]? = some fn ∧ (fn.name == "runtime.NumGoroutine") = false ∧ fn.body = some c ∧ zC Tryd.prog sandZ c = true :=
  ⟨_, _, Tryd.func48, by decide +kernel, rfl, by decide +kernel⟩
theorem sand_mildZ : MildZ Tryd.prog sandZ := by
  refine ⟨fun f hf => ?_, fun g => ?_, ?_⟩
  · unfold sandZ at hf
    simp only [List.contains_cons, List.contains_nil, Bool.or_false, Bool.or_eq_true, beq_iff_eq] at hf
    rcases hf with rfl | rfl | rfl | rfl | rfl | rfl | rfl | rfl | rfl | rfl | rfl | rfl | rfl | rfl | rfl | rfl | rfl | rfl | rfl | rfl | rfl | rfl | rfl | rfl | rfl
    · exact tz0
    · exact tz1
    · exact tz2
    · exact tz3
    · exact tz4
    · exact tz5
    · exact tz6
    · exact tz7
    · exact tz8
    · exact tz9
    · exact tz10
    · exact tz11
    · exact tz12
    · exact tz13
    · exact tz14
    · exact tz15
    · exact tz16
    · exact tz17
    · exact tz18
    · exact tz19
    · exact tz20
    · exact tz21
    · exact tz22
    · exact tz23
    · exact tz24
  · exact no_step g
  · kernel_rfl
end Go.Proofs.YtpajdmhgonmgoaaDoor

namespace Go.Proofs.YtpajdmhgonmgoaaDoor
open Go.RowKit
set_option linter.unusedVariables false
open Go.Conc Go.ConcN Go.RowKit Go.Conc.Lib Go.ConcR.Gen
open Go.ConcR (KK wgBlock WgAt stA smA rd wr Payload DC0)
set_option linter.unusedSimpArgs false
set_option maxRecDepth 100000 in
set_option maxHeartbeats 3200000 in
/-- edensame.Error of nil and 0: nothing is touched. -/
theorem errnil_x {E : Event → Prop} {S : Goroutine → World → Prop} {fb : Frame} {a : Act} {k : List Item} {cs : List Frame} {ops : Array Oper} {i : Nat} {rest : List Nat} {o : Oper} {x y : Operand} {ats : Array TypeId} {w0 : World}
    (ho : ops[i]? = some o) (hw : Region.wanted o (yielded ops a.tmps) = true) (hk : fb.kind ≠ .early) (hop : o.op = .call { callee := .value (.func 7), args := #[x, y], argTypes := ats }) (hx : a.eval x = .nilIface) (hy : a.eval y = .int .i64 0) {M : Nat}
    (hn : Gp Tryd.prog E S M (G (fb.at (a.put o.dst (.bool true)) (.inRegion ops rest :: k)) cs) (AtRel w0)) : Gp Tryd.prog E S (M + 60) (G (fb.at a (.inRegion ops (i :: rest) :: k)) cs) (AtRel w0) := by
  have hc := atRel_c
  have hdst : (ops[i]?).bind (·.dst) = o.dst := by rw [ho]; rfl
  refine gp_call (hc _) ho hw hk hop Tryd.func7 rfl rfl ?_
  simp only [List.map_toArray, List.map_cons, List.map_nil, hx, hy, Tryd.f7]
  walk_nrm
  refine gp_seq (hc _) ?_
  refine gp_region (hc _) ?_
  try simp only [List.size_toArray, List.length_cons, List.length_nil, Nat.reduceAdd, Nat.zero_add, List.range, List.range.loop]
  refine gp_opk (hc _) rfl rfl (by k_ne) (fun w hF K' hK => ?_)
  go_simp
  with_reducible refine hK _ (fun e' he => ?_) ?_
  · (clear hK; simp [go_sem, ev_nil, *] at he)
  clear hK K' hF
  clear w
  try walk_nrm
  refine gp_done (hc _) ?_
  refine gp_seq (hc _) ?_
  refine gp_region (hc _) ?_
  try simp only [List.size_toArray, List.length_cons, List.length_nil, Nat.reduceAdd, Nat.zero_add, List.range, List.range.loop]
  refine gp_opk (hc _) rfl rfl (by k_ne) (fun w hF K' hK => ?_)
  go_simp
  with_reducible refine hK _ (fun e' he => ?_) ?_
  · (clear hK; simp [go_sem, ev_nil, *] at he)
  clear hK K' hF
  clear w
  try walk_nrm
  refine gp_call (hc _) rfl rfl (by k_ne) rfl Tryd.func18 rfl rfl ?_
  walk_nrmf Tryd.f18
  refine gp_seq (hc _) ?_
  refine gp_region (hc _) ?_
  try simp only [List.size_toArray, List.length_cons, List.length_nil, Nat.reduceAdd, Nat.zero_add, List.range, List.range.loop]
  refine gp_opk (hc _) rfl rfl (by k_ne) (fun w hF K' hK => ?_)
  go_simp
  with_reducible refine hK _ (fun e' he => ?_) ?_
  · (clear hK; simp [go_sem, ev_nil, *] at he)
  clear hK K' hF
  clear w
  try walk_nrm
  refine gp_done (hc _) ?_
  refine gp_seq (hc _) ?_
  refine gp_seq (hc _) ?_
  refine gp_region (hc _) ?_
  try simp only [List.size_toArray, List.length_cons, List.length_nil, Nat.reduceAdd, Nat.zero_add, List.range, List.range.loop]
  refine gp_opk (hc _) rfl rfl (by k_ne) (fun w hF K' hK => ?_)
  go_simp
  with_reducible refine hK _ (fun e' he => ?_) ?_
  · (clear hK; simp [go_sem, ev_nil, *] at he)
  clear hK K' hF
  clear w
  try walk_nrm
  refine gp_opk (hc _) rfl rfl (by k_ne) (fun w hF K' hK => ?_)
  go_simp
  with_reducible refine hK _ (fun e' he => ?_) ?_
  · (clear hK; simp [go_sem, ev_nil, *] at he)
  clear hK K' hF
  clear w
  try walk_nrm
  refine gp_done (hc _) ?_
  refine gp_cond (hc _) true rfl ?_
  simp only [if_true, ↓reduceIte]
  refine gp_seq (hc _) ?_
  refine gp_region (hc _) ?_
  try simp only [List.size_toArray, List.length_cons, List.length_nil, Nat.reduceAdd, Nat.zero_add, List.range, List.range.loop]
  refine gp_opk (hc _) rfl rfl (by k_ne) (fun w hF K' hK => ?_)
  go_simp
  with_reducible refine hK _ (fun e' he => ?_) ?_
  · (clear hK; simp [go_sem, ev_nil, *] at he)
  clear hK K' hF
  clear w
  try walk_nrm
  refine gp_done (hc _) ?_
  refine gp_ret (hc _) ?_
  refine gp_leave1 (hc _) rfl rfl Tryd.func18 rfl ?_
  walk_nrm
  refine gp_opk (hc _) rfl rfl (by k_ne) (fun w hF K' hK => ?_)
  go_simp
  with_reducible refine hK _ (fun e' he => ?_) ?_
  · (clear hK; simp [go_sem, ev_nil, *] at he)
  clear hK K' hF
  clear w
  try walk_nrm
  refine gp_done (hc _) ?_
  refine gp_seq (hc _) ?_
  refine gp_region (hc _) ?_
  try simp only [List.size_toArray, List.length_cons, List.length_nil, Nat.reduceAdd, Nat.zero_add, List.range, List.range.loop]
  refine gp_opk (hc _) rfl rfl (by k_ne) (fun w hF K' hK => ?_)
  go_simp
  with_reducible refine hK _ (fun e' he => ?_) ?_
  · (clear hK; simp [go_sem, ev_nil, *] at he)
  clear hK K' hF
  clear w
  try walk_nrm
  refine gp_opk (hc _) rfl rfl (by k_ne) (fun w hF K' hK => ?_)
  go_simp
  with_reducible refine hK _ (fun e' he => ?_) ?_
  · (clear hK; simp [go_sem, ev_nil, *] at he)
  clear hK K' hF
  clear w
  try walk_nrm
  refine gp_opk (hc _) rfl rfl (by k_ne) (fun w hF K' hK => ?_)
  go_simp
  with_reducible refine hK _ (fun e' he => ?_) ?_
  · (clear hK; simp [go_sem, ev_nil, *] at he)
  clear hK K' hF
  clear w
  try walk_nrm
  refine gp_opk (hc _) rfl rfl (by k_ne) (fun w hF K' hK => ?_)
  go_simp
  with_reducible refine hK _ (fun e' he => ?_) ?_
  · (clear hK; simp [go_sem, ev_nil, *] at he)
  clear hK K' hF
  clear w
  try walk_nrm
  refine gp_done (hc _) ?_
  refine gp_ret (hc _) ?_
  refine gp_leave1 (hc _) rfl rfl Tryd.func7 rfl ?_
  rw [hdst]
  exact Gp.mono hn (by omega)
end Go.Proofs.YtpajdmhgonmgoaaDoor

namespace Go.Proofs.YtpajdmhgonmgoaaDoor
open Go.RowKit
set_option linter.unusedVariables false
open Go.Conc Go.ConcN Go.RowKit
set_option linter.unusedSimpArgs false
set_option maxRecDepth 100000 in
set_option maxHeartbeats 25600000 in
/-- From the law's call to where Crowd has returned and its error has been asked for. -/
theorem settles_front {Post : Value → World → Prop} {n sn nw : Nat} {en ec cn cc on oc : Nat} {xs : List EgT} {cl : List Int} {ea ca oa : Option Addr} {w : World} (hE : ArgE w xs ea en ec) (hC : ArgP w cl ca cn cc) (hH : ∀ V : World, Below w.heap.size w V → Handle V)
    (GC : GoodC n sn xs cl) (k1 : 1 ≤ (nw : Int)) (k2 : (nw : Int) ≤ 8)
    (hN : ∀ (Shun : Loc → Prop) (pa fa fq ft pb g1 g2 : Nat) (u : Nat → Int) (V : World) (x6 x7 x8 x9 x13 x21 x22 x23 x24 x25 x26 x27 x28 x29 x30 x31 x32 x33 x34 x35 x36 x37 x38 x39 x40 x41 x42 x43 x44 x45 x46 x47 x48 x49 x50 x51 x52 x53 x54 x55 x56 x57 x58 x59 x60 x61 x62 x63 x64 x65 x66 x67 x68 x69 x70 x71 x72 x73 x74 x75 x76 x77 x78 x79 x80 x81 x82 x83 x84 x85 x86 x87 x88 x89 x90 x91 x92 x93 x94 x95 x96 x97 x98 x99 x100 x101 x102 x103 x104 x105 x106 x107 x108 x109 x110 x111 x112 x113 x114 x115 x116 x117 x118 x119 x120 x121 x122 x123 x124 x125 x126 x127 x128 x129 x130 x131 x132 x133 x134 x135 x136 x137 x138 x139 x140 x141 x142 x143 x144 x145 x146 x147 x148 x149 x150 x151 x152 x153 : Value), CoS w n sn xs cl ea en ec pa fa fq ft pb g1 g2 u (Xs Shun) V → Cx Shun V → V.tape = w.tape → On Tryd.prog Shun (G ((base 3).at ⟨#[(.agg #[.int .i64 (n : Int), .slice ea en ec]), (.int .i64 (sn : Int)), (.slice ca cn cc), (.slice oa on oc), (.int .i64 (nw : Int)), (.pointer (some ⟨w.heap.size, 0, none⟩)), x6, x7, x8, x9, (.bool false), (.int .i64 0), .nilIface, x13, (.pointer (some ⟨pa, 0, none⟩)), (.bool true), (.int .i64 0), (.pointer (some ⟨pb, 0, none⟩)), (.bool true), (.slice none 0 0), (.slice none 0 0), x21, x22, x23, x24, x25, x26, x27, x28, x29, x30, x31, x32, x33, x34, x35, x36, x37, x38, x39, x40, x41, x42, x43, x44, x45, x46, x47, x48, x49, x50, x51, x52, x53, x54, x55, x56, x57, x58, x59, x60, x61, x62, x63, x64, x65, x66, x67, x68, x69, x70, x71, x72, x73, x74, x75, x76, x77, x78, x79, x80, x81, x82, x83, x84, x85, x86, x87, x88, x89, x90, x91, x92, x93, x94, x95, x96, x97, x98, x99, x100, x101, x102, x103, x104, x105, x106, x107, x108, x109, x110, x111, x112, x113, x114, x115, x116, x117, x118, x119, x120, x121, x122, x123, x124, x125, x126, x127, x128, x129, x130, x131, x132, x133, x134, x135, x136, x137, x138, x139, x140, x141, x142, x143, x144, x145, x146, x147, x148, x149, x150, x151, x152, x153], []⟩ [.code (cT (cR (cL (cR (cR (cR (cR (cR (cR (cR (cR (cR (cR (cR (cR (cR (cR (bodyOf Tryd.f3)))))))))))))))))), .code (cR (cR (cR (cR (cR (cR (cR (cR (cR (cR (cR (cR (cR (cR (cR (bodyOf Tryd.f3))))))))))))))))]) []) V (LawEnd Tryd.prog Post)) :
    Reach Tryd.prog (G ((base 3).at ⟨#[.agg #[.int .i64 (n : Int), .slice ea en ec], .int .i64 (sn : Int), .slice ca cn cc, .slice oa on oc, .int .i64 (nw : Int), undef, undef, undef, undef, undef, undef, undef, undef, undef, undef, undef, undef, undef, undef, undef, undef, undef, undef, undef, undef, undef, undef, undef, undef, undef, undef, undef, undef, undef, undef, undef, undef, undef, undef, undef, undef, undef, undef, undef, undef, undef, undef, undef, undef, undef, undef, undef, undef, undef, undef, undef, undef, undef, undef, undef, undef, undef, undef, undef, undef, undef, undef, undef, undef, undef, undef, undef, undef, undef, undef, undef, undef, undef, undef, undef, undef, undef, undef, undef, undef, undef, undef, undef, undef, undef, undef, undef, undef, undef, undef, undef, undef, undef, undef, undef, undef, undef, undef, undef, undef, undef, undef, undef, undef, undef, undef, undef, undef, undef, undef, undef, undef, undef, undef, undef, undef, undef, undef, undef, undef, undef, undef, undef, undef, undef, undef, undef, undef, undef, undef, undef, undef, undef, undef, undef, undef, undef, undef, undef, undef, undef, undef, undef, undef, undef, undef, undef, undef, undef], []⟩ [.code (bodyOf Tryd.f3)]) []) w (LawEnd Tryd.prog Post) := by
  obtain ⟨w1, hw1⟩ : ∃ w1, w.alloc (.cells #[.int .i64 (n : Int), .slice ea en ec] 24) = w1 := ⟨_, rfl⟩
  obtain ⟨gx, hgx⟩ : ∃ gx, w.heap.size = gx := ⟨_, rfl⟩
  have HGX := hide' hgx
  have HW1 := hide' hw1
  have B1 := hide' (show Below w.heap.size w w1 by rw [← hw1]; exact (Below.refl _ _).alloc (Nat.le_refl _) _)
  have R1 := hide' (show w1.heap[gx]? = some (.cells #[.int .i64 (n : Int), .slice ea en ec] 24 (0, 0)) by rw [← hw1, ← hgx]; exact heap_alloc_new _ _)
  have HE := hide' (fun (V : World) (h : Below w.heap.size w V) => hE.below h)
  have HC := hide' (fun (V : World) (h : Below w.heap.size w V) => hC.below h)
  have HN := hide' hN
  have HF := hide' GC.is
  have GG := hide' GC
  have N10 := hide' GC.ok.p2
  clear hw1 hE hC hH hN GC
  simp only [cT, cR, cL, bodyOf, Tryd.f3, Option.getD_some] at HN
  simp only [bodyOf, Tryd.f3, Option.getD_some]
  refine reach_nrm sand_mildZ.mild (by k_ne) funcs3 inits3 (by decide +kernel) rfl ?_
  go_wp2
  rw [HW1.out]
  show Reach _ _ _ _
  have y0 := cell_of_row w1 _ 0 _ _ _ R1.out
  have y1 := cell_of_row w1 _ 1 _ _ _ R1.out
  simp at y0 y1
  have CT := hide' (refFault_any (n : Int) xs ea en ec w1 (HE.out w1 B1.out))
  refine reach_nrm sand_mildZ.mild (by k_ne) funcs3 inits3 (by decide +kernel) rfl ?_
  go_wp2_with fail
  refine CT.out.mono ?_
  rintro e w2 ⟨g, hg, rfl, b⟩
  obtain rfl : g = 0 := hg.only (FaG.of GG.out.ok)
  have B2 := hide' (B1.out.trans (b.mono B1.out.size))
  have R2 := hide' ((b.block _ (ltS_of_block R1.out)).trans R1.out)
  rw [show ((0 : Nat) : Int) = 0 from rfl]
  clear hg
  clear CT b y0 y1
  go_wp2
  show Reach _ _ _ _
  have y0 := cell_of_row w2 _ 0 _ _ _ R2.out
  have y1 := cell_of_row w2 _ 1 _ _ _ R2.out
  simp at y0 y1
  have CT := hide' (Check_any (n : Int) xs ea en ec w2 (HE.out w2 B2.out))
  refine reach_nrm sand_mildZ.mild (by k_ne) funcs3 inits3 (by decide +kernel) rfl ?_
  go_wp2_with fail
  refine CT.out.mono ?_
  rintro e w3 ⟨g, hg, rfl, b⟩
  obtain rfl : g = 0 := hg.only (FaG.of GG.out.ok)
  have B3 := hide' (B2.out.trans (b.mono B2.out.size))
  have R3 := hide' ((b.block _ (ltS_of_block R2.out)).trans R2.out)
  rw [show errOf 0 = .nilIface from rfl]
  clear hg
  clear CT b y0 y1
  go_wp2
  show Reach _ _ _ _
  have y0 := cell_of_row w3 _ 0 _ _ _ R3.out
  have y1 := cell_of_row w3 _ 1 _ _ _ R3.out
  simp at y0 y1
  refine reach_gp (n := 100) ?_
  have hc := atRel_c
  refine gp_seq (hc _) ?_
  refine gp_region (hc _) ?_
  try simp only [List.size_toArray, List.length_cons, List.length_nil, Nat.reduceAdd, Nat.zero_add, List.range, List.range.loop]
  refine gp_opk (hc _) rfl rfl (by k_ne) (fun w hF K' hK => ?_)
  go_simp
  with_reducible refine hK _ (fun e' he => ?_) ?_
  · (clear hK; simp [go_sem] at he)
  clear hK K' hF
  clear w
  try walk_nrm
  refine gp_opk (hc _) rfl rfl (by k_ne) (fun w hF K' hK => ?_)
  go_simp
  with_reducible refine hK _ (fun e' he => ?_) ?_
  · (clear hK; simp [go_sem] at he)
  clear hK K' hF
  clear w
  try walk_nrm
  refine errnil_x rfl rfl (by k_ne) rfl rfl rfl ?_
  try walk_nrm
  refine gp_opk (hc _) rfl rfl (by k_ne) (fun w hF K' hK => ?_)
  go_simp
  with_reducible refine hK _ (fun e' he => ?_) ?_
  · (clear hK; simp [go_sem] at he)
  clear hK K' hF
  clear w
  try walk_nrm
  refine gp_done (hc _) ?_
  refine Gp.stop (hc _) (fun w' hF => ?_)
  obtain ⟨d, rfl⟩ := hF
  refine ⟨d, rfl, ?_⟩
  clear hc
  obtain ⟨w4, hw4⟩ : ∃ w4, w3.at d = w4 := ⟨_, rfl⟩
  rw [hw4]
  have b : Below w3.heap.size w3 w4 := by rw [← hw4]; exact ⟨rfl, rfl, rfl, Nat.le_refl _, fun _ _ => rfl⟩
  have B4 := hide' (B3.out.trans (b.mono B3.out.size))
  have R4 := hide' ((b.block _ (ltS_of_block R3.out)).trans R3.out)
  clear hw4 b y0 y1
  have y0 := cell_of_row w4 _ 0 _ _ _ R4.out
  have y1 := cell_of_row w4 _ 1 _ _ _ R4.out
  simp at y0 y1
  refine reach_nrm sand_mildZ.mild (by k_ne) funcs3 inits3 (by decide +kernel) rfl ?_
  go_wp2
  show Reach _ _ _ _
  have CT := hide' (refChips_any (n : Int) xs ea en ec (sn : Int) cl ca cn cc w4 (HE.out w4 B4.out) (HC.out w4 B4.out))
  refine reach_nrm sand_mildZ.mild (by k_ne) funcs3 inits3 (by decide +kernel) rfl ?_
  go_wp2_with fail
  refine CT.out.mono ?_
  rintro e w5 ⟨g, hg, rfl, b⟩
  obtain rfl : g = 0 := hg.only HF.out
  have B5 := hide' (B4.out.trans (b.mono B4.out.size))
  have R5 := hide' ((b.block _ (ltS_of_block R4.out)).trans R4.out)
  rw [show ((0 : Nat) : Int) = 0 from rfl]
  clear hg
  clear CT b y0 y1
  go_wp2
  show Reach _ _ _ _
  have y0 := cell_of_row w5 _ 0 _ _ _ R5.out
  have y1 := cell_of_row w5 _ 1 _ _ _ R5.out
  simp at y0 y1
  have CT := hide' (settleC_any (n : Int) xs ea en ec (sn : Int) cl ca cn cc w5 (HE.out w5 B5.out) (HC.out w5 B5.out))
  refine reach_nrm sand_mildZ.mild (by k_ne) funcs3 inits3 (by decide +kernel) rfl ?_
  go_wp2_with fail
  refine CT.out.mono ?_
  rintro e w6 ⟨b, g, hg, hout⟩
  obtain rfl : g = 0 := hg.only HF.out
  rcases hout with ⟨h, _⟩ | ⟨_, n', sn', fa, fq, ft, u, en', es', rfl, pl, st, rc, ru, hfa, hft, hne⟩
  case inl => exact (h rfl).elim
  obtain rfl : n' = n := by omega
  obtain rfl : sn' = sn := by omega
  have B6 := hide' (B5.out.trans (b.mono B5.out.size))
  have R6 := hide' ((b.block _ (ltS_of_block R5.out)).trans R5.out)
  have RC6 := hide' rc
  have RU6 := hide' ru
  have PL := hide' (And.intro pl st)
  clear hg en' es' pl st rc ru hfa hft hne CT b y0 y1
  simp only [slS]
  go_wp2
  obtain ⟨pa, hpa⟩ : ∃ pa, w6.heap.size = pa := ⟨_, rfl⟩
  obtain ⟨w7, hw7⟩ : ∃ w7, w6.alloc (.cells #[.slice (some ⟨fa, 0, none⟩) n' fq, .slice (some ⟨ft, 0, none⟩) n' n'] 33) = w7 := ⟨_, rfl⟩
  rw [hpa, hw7]
  have b : Below w6.heap.size w6 w7 := by rw [← hw7]; exact (Below.refl _ _).alloc (Nat.le_refl _) _
  have B7 := hide' (B6.out.trans (b.mono B6.out.size))
  have R7 := hide' ((b.block _ (ltS_of_block R6.out)).trans R6.out)
  have RC7 := hide' (RC6.out.below b)
  have RU7 := hide' (RU6.out.below b)
  have Q7 := hide' (show w7.heap[pa]? = some (.cells #[.slice (some ⟨fa, 0, none⟩) n' fq, .slice (some ⟨ft, 0, none⟩) n' n'] 33 (0, 0)) by rw [← hw7, ← hpa]; exact heap_alloc_new _ _)
  clear hw7 b hpa
  show Reach _ _ _ _
  have y0 := cell_of_row w7 _ 0 _ _ _ R7.out
  have y1 := cell_of_row w7 _ 1 _ _ _ R7.out
  have z0 := cell_of_row w7 _ 0 _ _ _ Q7.out
  have z1 := cell_of_row w7 _ 1 _ _ _ Q7.out
  simp at y0 y1 z0 z1
  refine reach_gp (n := 100) ?_
  have hc := atRel_c
  refine gp_seq (hc _) ?_
  refine gp_region (hc _) ?_
  try simp only [List.size_toArray, List.length_cons, List.length_nil, Nat.reduceAdd, Nat.zero_add, List.range, List.range.loop]
  refine gp_opk (hc _) rfl rfl (by k_ne) (fun w hF K' hK => ?_)
  go_simp
  with_reducible refine hK _ (fun e' he => ?_) ?_
  · (clear hK; simp [go_sem] at he)
  clear hK K' hF
  clear w
  try walk_nrm
  refine gp_opk (hc _) rfl rfl (by k_ne) (fun w hF K' hK => ?_)
  go_simp
  with_reducible refine hK _ (fun e' he => ?_) ?_
  · (clear hK; simp [go_sem] at he)
  clear hK K' hF
  clear w
  try walk_nrm
  refine errnil_x rfl rfl (by k_ne) rfl rfl rfl ?_
  try walk_nrm
  refine gp_opk (hc _) rfl rfl (by k_ne) (fun w hF K' hK => ?_)
  go_simp
  with_reducible refine hK _ (fun e' he => ?_) ?_
  · (clear hK; simp [go_sem] at he)
  clear hK K' hF
  clear w
  try walk_nrm
  refine gp_done (hc _) ?_
  refine Gp.stop (hc _) (fun w' hF => ?_)
  obtain ⟨d, rfl⟩ := hF
  refine ⟨d, rfl, ?_⟩
  clear hc
  obtain ⟨w8, hw8⟩ : ∃ w8, w7.at d = w8 := ⟨_, rfl⟩
  rw [hw8]
  have b : Below w7.heap.size w7 w8 := by rw [← hw8]; exact ⟨rfl, rfl, rfl, Nat.le_refl _, fun _ _ => rfl⟩
  have B8 := hide' (B7.out.trans (b.mono B7.out.size))
  have R8 := hide' ((b.block _ (ltS_of_block R7.out)).trans R7.out)
  have Q8 := hide' ((b.block _ (ltS_of_block Q7.out)).trans Q7.out)
  have RC8 := hide' (RC7.out.below b)
  have RU8 := hide' (RU7.out.below b)
  clear hw8 b y0 y1 z0 z1
  have y0 := cell_of_row w8 _ 0 _ _ _ R8.out
  have y1 := cell_of_row w8 _ 1 _ _ _ R8.out
  have z0 := cell_of_row w8 _ 0 _ _ _ Q8.out
  have z1 := cell_of_row w8 _ 1 _ _ _ Q8.out
  simp at y0 y1 z0 z1
  refine reach_nrm sand_mildZ.mild (by k_ne) funcs3 inits3 (by decide +kernel) rfl ?_
  go_wp2
  show Reach _ _ _ _
  refine reach_nrm sand_mildZ.mild (by k_ne) funcs3 inits3 (by decide +kernel) rfl ?_
  go_wp2
  show Reach _ _ _ _
  refine Reach.ctl rfl stepG_seq ?_
  refine Reach.ctl rfl stepG_region ?_
  try simp only [List.size_toArray, List.length_cons, List.length_nil, Nat.reduceAdd, Nat.zero_add, List.range, List.range.loop]
  have lv := ltS_of_block R8.out
  refine reach_opk rfl rfl (by k_ne) (fun K hK => ?_)
  go_simp
  with_reducible refine hK _ (fun e' he => ?_) ?_
  · clear hK
    simp [go_sem, y0, y1] at he
    rcases he with rfl | rfl
    · exact ⟨lv, fun m h => by cases h⟩
    · exact ⟨lv, fun m h => by cases h⟩
  clear hK K
  try walk_nrm
  refine reach_opk rfl rfl (by k_ne) (fun K hK => ?_)
  go_simp
  with_reducible refine hK _ (fun e' he => ?_) ?_
  · (clear hK; simp [go_sem] at he)
  clear hK K
  try walk_nrm
  refine reach_opk rfl rfl (by k_ne) (fun K hK => ?_)
  go_simp
  with_reducible refine hK _ (fun e' he => ?_) ?_
  · (clear hK; simp [go_sem] at he)
  clear hK K
  try walk_nrm
  refine reach_opk rfl rfl (by k_ne) (fun K hK => ?_)
  go_simp
  with_reducible refine hK _ (fun e' he => ?_) ?_
  · (clear hK; simp [go_sem] at he)
  clear hK K
  try walk_nrm
  refine reach_call rfl rfl (by k_ne) rfl Tryd.func10 rfl rfl ?_
  walk_nrmf Tryd.f10
  have BV := B8.out
  refine reach_then (crowd_reachE ?_ GG.out (HE.out w8 BV) (HC.out w8 BV) (by omega) (by omega)) ?_
  · simp only [bodyOf, Tryd.f10, Option.getD_some]
  rintro m t ⟨Shun, B, g1, g2, w', v, hb, pl, st, sB, r1, r2, old, sh, f1, f2, sz, shl, oso, shc⟩
  have s0 := ltS_of_block R8.out
  have s1 := ltS_of_block Q8.out
  have s3 := row_lt RC8.out
  have s4 := row_lt RU8.out
  have nX : ∀ k, k < w8.heap.size → ¬ Xs Shun k := fun k hk ⟨a, ha, e⟩ => by have := (sh a ha).1; omega
  have bz := BV.size
  have hx : Cx Shun w' := ⟨shc.kind, shl, shc.chan⟩
  have eu : ∀ k, k < n' → v k = u k := fun k hk => pl.same st PL.out.1 PL.out.2 k hk
  obtain ⟨pb, hpb⟩ : ∃ pb, w'.heap.size = pb := ⟨_, rfl⟩
  obtain ⟨v1, hv1⟩ : ∃ v1, v1 = w'.alloc (.cells #[.slice none 0 0, .slice none 0 0] 33) := ⟨_, rfl⟩
  have n1 : v1.heap[pb]? = some (.cells #[.slice none 0 0, .slice none 0 0] 33 (0, 0)) := by rw [hv1, ← hpb]; exact heap_alloc_new _ _
  obtain ⟨v2, hv2⟩ : ∃ v2, v2 = (v1.setCell ⟨pb, 0, none⟩ (.slice (some ⟨g1, 0, none⟩) n' n')).setCell ⟨pb, 1, none⟩ (.slice (some ⟨g2, 0, none⟩) n' n') := ⟨_, rfl⟩
  have z2 : v2.heap.size = pb + 1 := by rw [hv2, hv1]; simp [hpb]
  have e2 : ∀ k, k < pb → v2.heap[k]? = w'.heap[k]? := fun k hk => by rw [hv2, hSet _ _ _ _ (by show k ≠ pb; omega), hSet _ _ _ _ (by show k ≠ pb; omega), hv1, hOld _ _ _ (by omega)]
  have q2 : v2.heap[pb]? = some (.cells #[.slice (some ⟨g1, 0, none⟩) n' n', .slice (some ⟨g2, 0, none⟩) n' n'] 33 (0, 0)) := by
    rw [hv2]
    have k1 := heap_setCell_same v1 pb 0 _ _ (.slice (some ⟨g1, 0, none⟩) n' n') n1
    exact heap_setCell_same _ pb 1 _ _ (.slice (some ⟨g2, 0, none⟩) n' n') k1
  have o2 : v2.os = w'.os ∧ v2.tape = w'.tape ∧ v2.output = w'.output := by rw [hv2, hv1]; exact ⟨rfl, rfl, rfl⟩
  have xpb : ¬ Xs Shun pb := fun ⟨a, ha, e⟩ => by have := shl a ha; omega
  have CO : CoS w n' sn' xs cl ea en ec pa fa fq ft pb g1 g2 u (Xs Shun) v2 := by
    have lg1 := ltS_of_block r1
    have lg2 := ltS_of_block r2
    refine ⟨⟨?_, ?_, by omega, fun k hk => ?_⟩, ?_, ?_, q2, ?_, ?_, ?_, ?_, PL.out.1, PL.out.2, fun k hk => nX k (by have := HGX.out; omega), nX pa s1, xpb, nX fa s3, nX ft s4, fun ⟨a, ha, e⟩ => (sh a ha).2.1 e, fun ⟨a, ha, e⟩ => (sh a ha).2.2 e⟩
    · rw [o2.1, oso.1, BV.os]
    · rw [o2.2.2, oso.2.2, BV.output]
    · rw [e2 k (by omega), old k (by omega), BV.block k hk]
    · rw [HGX.out, e2 gx (by omega), old gx s0]; exact R8.out
    · rw [e2 pa (by omega), old pa s1]; exact Q8.out
    · exact row_on RC8.out ((e2 fa (by omega)).trans (old fa s3))
    · exact row_on RU8.out ((e2 ft (by omega)).trans (old ft s4))
    · exact ⟨_, (e2 g1 (by omega)).trans r1, fun k hk => by rw [arrS_get _ hk]; exact congrArg (fun z => some (Value.int .i64 z)) (chS.congU eu hk)⟩
    · exact ⟨_, (e2 g2 (by omega)).trans r2, fun k hk => by rw [arrS_get _ hk]; exact congrArg (fun z => some (Value.int .i64 z)) (eu k hk)⟩
  have hx2 : Cx Shun v2 := ⟨hx.kind, fun a ha => by have := hx.low a ha; omega, fun r hr => by
    obtain ⟨o, h1, h2⟩ := hx.chan r hr
    exact ⟨o, (e2 r (by have := ltS_of_block h1; omega)).trans h1, h2⟩⟩
  have tp2 : v2.tape = w.tape := by rw [o2.2.1, oso.2.1, BV.tape]
  refine (?_ : On Tryd.prog Shun _ w' (LawEnd Tryd.prog Post)) B m t sB hb
  have COH := hide' CO
  have HX2 := hide' hx2
  have Sn : ∀ a : Addr, a.block = pb → ¬ Shun (.cell a) := fun a h1 h2 => xpb ⟨a, h2, h1⟩
  clear hb old sh shl oso shc r1 r2 sz sB CO hx hx2 nX eu e2 q2 o2 xpb BV s0 s1 s3 s4 f1 f2 bz pl st y0 y1 z0 z1 lv
  simp only [slV]
  refine on_gpw (V2 := v2) (n := 200) (by omega) fun B' hB' => ?_
  have hc := atRel_c
  try walk_nrm
  refine gp_opk (hc _) rfl rfl (by k_ne) (fun w hF K' hK => ?_)
  go_simp
  with_reducible refine hK _ (fun e' he => ?_) ?_
  · (clear hK; simp [go_sem] at he)
  clear hK K' hF
  clear w
  try walk_nrm
  refine gp_opk (hc _) rfl rfl (by k_ne) (fun w hF K' hK => ?_)
  go_simp
  with_reducible refine hK _ (fun e' he => ?_) ?_
  · (clear hK; simp [go_sem] at he)
  clear hK K' hF
  clear w
  try walk_nrm
  refine gp_opk (hc _) rfl rfl (by k_ne) (fun w hF K' hK => ?_)
  go_simp
  with_reducible refine hK _ (fun e' he => ?_) ?_
  · (clear hK; simp [go_sem] at he)
  clear hK K' hF
  clear w
  try walk_nrm
  refine gp_valw (F' := AtRel v1) (hc _) rfl rfl (by k_ne) (.pointer (some ⟨pb, 0, none⟩)) (fun w hF => ?_) ?_
  · obtain ⟨d, rfl⟩ := hF
    refine ⟨v1.at d, Or.inl ?_, fun e he => ?_, ⟨d, rfl⟩⟩
    · rw [hv1, ← hpb]; exact (al_run (w := w'.at d) rfl).1
    · rw [(al_run (w := w'.at d) rfl).2] at he
      simp at he
  walk_nrm
  refine gp_valw (F' := AtRel v2) (hc _) rfl rfl (by k_ne) undef (fun w hF => ?_) ?_
  · obtain ⟨d, rfl⟩ := hF
    refine ⟨v2.at d, Or.inr ⟨?_, rfl⟩, fun e he => ?_, ⟨d, rfl⟩⟩
    · rw [(st_run (w := v1.at d) (g := pb) (a1 := some ⟨g1, 0, none⟩) (n1 := n') (m1 := n') (a2 := some ⟨g2, 0, none⟩) (n2 := n') (m2 := n') n1 (by simp) (by simp) rfl).1, hv2]
      rfl
    · rw [(st_run (w := v1.at d) (g := pb) (a1 := some ⟨g1, 0, none⟩) (n1 := n') (m1 := n') (a2 := some ⟨g2, 0, none⟩) (n2 := n') (m2 := n') n1 (by simp) (by simp) rfl).2] at he
      exact mem_two he (evL_cell _ _ (Sn _ rfl) (by show pb < B' + 2; omega)) (evL_cell _ _ (Sn _ rfl) (by show pb < B' + 2; omega))
  walk_nrm
  refine gp_opk (hc _) rfl rfl (by k_ne) (fun w hF K' hK => ?_)
  go_simp
  with_reducible refine hK _ (fun e' he => ?_) ?_
  · (clear hK; simp [go_sem] at he)
  clear hK K' hF
  clear w
  try walk_nrm
  refine gp_done (hc _) ?_
  refine gp_seq (hc _) ?_
  refine gp_region (hc _) ?_
  try simp only [List.size_toArray, List.length_cons, List.length_nil, Nat.reduceAdd, Nat.zero_add, List.range, List.range.loop]
  refine gp_opk (hc _) rfl rfl (by k_ne) (fun w hF K' hK => ?_)
  go_simp
  with_reducible refine hK _ (fun e' he => ?_) ?_
  · (clear hK; simp [go_sem] at he)
  clear hK K' hF
  clear w
  try walk_nrm
  refine gp_opk (hc _) rfl rfl (by k_ne) (fun w hF K' hK => ?_)
  go_simp
  with_reducible refine hK _ (fun e' he => ?_) ?_
  · (clear hK; simp [go_sem] at he)
  clear hK K' hF
  clear w
  try walk_nrm
  refine errnil_x rfl rfl (by k_ne) rfl rfl rfl ?_
  try walk_nrm
  refine gp_opk (hc _) rfl rfl (by k_ne) (fun w hF K' hK => ?_)
  go_simp
  with_reducible refine hK _ (fun e' he => ?_) ?_
  · (clear hK; simp [go_sem] at he)
  clear hK K' hF
  clear w
  try walk_nrm
  refine gp_done (hc _) ?_
  refine gp_seq (hc _) ?_
  refine gp_region (hc _) ?_
  try simp only [List.size_toArray, List.length_cons, List.length_nil, Nat.reduceAdd, Nat.zero_add, List.range, List.range.loop]
  refine gp_opk (hc _) rfl rfl (by k_ne) (fun w hF K' hK => ?_)
  go_simp
  with_reducible refine hK _ (fun e' he => ?_) ?_
  · (clear hK; simp [go_sem] at he)
  clear hK K' hF
  clear w
  try walk_nrm
  refine gp_done (hc _) ?_
  refine gp_seq (hc _) ?_
  refine gp_region (hc _) ?_
  try simp only [List.size_toArray, List.length_cons, List.length_nil, Nat.reduceAdd, Nat.zero_add, List.range, List.range.loop]
  refine gp_opk (hc _) rfl rfl (by k_ne) (fun w hF K' hK => ?_)
  go_simp
  with_reducible refine hK _ (fun e' he => ?_) ?_
  · (clear hK; simp [go_sem] at he)
  clear hK K' hF
  clear w
  try walk_nrm
  refine gp_done (hc _) ?_
  refine gp_seq (hc _) ?_
  refine gp_seq (hc _) ?_
  refine gp_region (hc _) ?_
  try simp only [List.size_toArray, List.length_cons, List.length_nil, Nat.reduceAdd, Nat.zero_add, List.range, List.range.loop]
  refine gp_opk (hc _) rfl rfl (by k_ne) (fun w hF K' hK => ?_)
  go_simp
  with_reducible refine hK _ (fun e' he => ?_) ?_
  · (clear hK; simp [go_sem] at he)
  clear hK K' hF
  clear w
  try walk_nrm
  refine gp_opk (hc _) rfl rfl (by k_ne) (fun w hF K' hK => ?_)
  go_simp
  with_reducible refine hK _ (fun e' he => ?_) ?_
  · (clear hK; simp [go_sem, ev_nil] at he)
  clear hK K' hF
  clear w
  try walk_nrm
  refine gp_done (hc _) ?_
  refine gp_cond (hc _) true rfl ?_
  refine Gp.stop (hc _) (fun w' hF => ?_)
  obtain ⟨d, rfl⟩ := hF
  refine ⟨d, rfl, ?_⟩
  obtain rfl := HGX.out
  exact HN.out Shun pa fa fq ft pb g1 g2 u (v2.at d) _ _ _ _ _ _ _ _ _ _ _ _ _ _ _ _ _ _ _ _ _ _ _ _ _ _ _ _ _ _ _ _ _ _ _ _ _ _ _ _ _ _ _ _ _ _ _ _ _ _ _ _ _ _ _ _ _ _ _ _ _ _ _ _ _ _ _ _ _ _ _ _ _ _ _ _ _ _ _ _ _ _ _ _ _ _ _ _ _ _ _ _ _ _ _ _ _ _ _ _ _ _ _ _ _ _ _ _ _ _ _ _ _ _ _ _ _ _ _ _ _ _ _ _ _ _ _ _ _ _ _ _ _ _ _ _ _ _ (COH.out.keep (keep_at d)) (HX2.out.at d) tp2
end Go.Proofs.YtpajdmhgonmgoaaDoor

