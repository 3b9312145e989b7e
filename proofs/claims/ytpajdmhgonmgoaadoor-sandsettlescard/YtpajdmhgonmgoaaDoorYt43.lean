/-
  What the last text of this claim leans on, part 43: Td6, Tb3, Tb4, Tb5.
-/
import Derived.Test.YtpajdmhgonmgoaaDoorYt42
import Derived.Test.YtpajdmhgonmgoaaDoorYt40
namespace Go.Proofs.YtpajdmhgonmgoaaDoor
open Go.RowKit
set_option linter.unusedVariables false
open Go.Conc Go.ConcN Go.RowKit
set_option linter.unusedSimpArgs false
theorem row_eq {V : World} {a n : Nat} {f g : Nat → Int} (r : RowAt V a n f) (e : ∀ k, k < n → f k = g k) : RowAt V a n g := by
  obtain ⟨C, h1, h2⟩ := r
  exact ⟨C, h1, fun k hk => by rw [← e k hk]; exact h2 k hk⟩
set_option maxRecDepth 100000 in
set_option maxHeartbeats 25600000 in
/-- Beside leavers: the reference's settling, and what both came to. -/
theorem settles_mid {Post : Value → World → Prop} {n sn nw : Nat} {en ec cn cc on oc : Nat} {xs : List EgT} {cl : List Int} {ea ca oa : Option Addr} {w : World} {Shun : Loc → Prop} {pa fa fq ft pb g1 g2 : Nat} {u : Nat → Int} {V0 : World} (hE : ArgE w xs ea en ec) (hC : ArgP w cl ca cn cc) (GC : GoodC n sn xs cl) (hco : CoS w n sn xs cl ea en ec pa fa fq ft pb g1 g2 u (Xs Shun) V0) (hx : Cx Shun V0) (ht : V0.tape = w.tape)
    (hN : ∀ (V : World) (x6 x7 x8 x9 x12 x13 x14 x15 x16 x17 x18 x19 x20 x24 x25 x26 x27 x28 x29 x30 x31 x32 x33 x34 x35 x36 x37 x38 x39 x40 x41 x42 x43 x44 x45 x46 x47 x48 x49 x50 x51 x52 x53 x54 x55 x56 x57 x58 x59 x60 x61 x62 x63 x64 x65 x66 x67 x68 x69 x70 x71 x72 x73 x74 x75 x76 x77 x78 x79 x80 x81 x82 x83 x84 x85 x86 x87 x88 x89 x90 x91 x92 x93 x94 x95 x96 x97 x98 x99 x100 x101 x102 x103 x104 x105 x106 x107 x108 x109 x110 x111 x112 x113 x114 x115 x116 x117 x118 x119 x120 x121 x122 x123 x124 x125 x126 x127 x128 x129 x130 x131 x132 x133 x134 x135 x136 x137 x138 x139 x140 x141 x142 x143 x144 x145 x146 x147 x148 x149 x150 x151 x152 x153 : Value), CoS w n sn xs cl ea en ec pa fa fq ft pb g1 g2 u (Xs Shun) V → Cx Shun V → V.tape = w.tape → On Tryd.prog Shun (G ((base 3).at ⟨#[(.agg #[.int .i64 (n : Int), .slice ea en ec]), (.int .i64 (sn : Int)), (.slice ca cn cc), (.slice oa on oc), (.int .i64 (nw : Int)), (.pointer (some ⟨w.heap.size, 0, none⟩)), x6, x7, x8, x9, (.bool false), (.int .i64 0), x12, x13, x14, x15, x16, x17, x18, x19, x20, (.bool true), (.bool true), (.slice none 0 0), x24, x25, x26, x27, x28, x29, x30, x31, x32, x33, x34, x35, x36, x37, x38, x39, x40, x41, x42, x43, x44, x45, x46, x47, x48, x49, x50, x51, x52, x53, x54, x55, x56, x57, x58, x59, x60, x61, x62, x63, x64, x65, x66, x67, x68, x69, x70, x71, x72, x73, x74, x75, x76, x77, x78, x79, x80, x81, x82, x83, x84, x85, x86, x87, x88, x89, x90, x91, x92, x93, x94, x95, x96, x97, x98, x99, x100, x101, x102, x103, x104, x105, x106, x107, x108, x109, x110, x111, x112, x113, x114, x115, x116, x117, x118, x119, x120, x121, x122, x123, x124, x125, x126, x127, x128, x129, x130, x131, x132, x133, x134, x135, x136, x137, x138, x139, x140, x141, x142, x143, x144, x145, x146, x147, x148, x149, x150, x151, x152, x153], []⟩ [.code (cT (cR (cL (cR (cR (cR (cR (cR (cR (cR (cR (cR (cR (cR (cR (cR (cR (cR (cR (cR (cR (cR (cR (bodyOf Tryd.f3)))))))))))))))))))))))), .code (cR (cR (cR (cR (cR (cR (cR (cR (cR (cR (cR (cR (cR (cR (cR (cR (cR (cR (cR (cR (cR (bodyOf Tryd.f3))))))))))))))))))))))]) []) V (LawEnd Tryd.prog Post)) (x6 x7 x8 x9 x13 x21 x22 x23 x24 x25 x26 x27 x28 x29 x30 x31 x32 x33 x34 x35 x36 x37 x38 x39 x40 x41 x42 x43 x44 x45 x46 x47 x48 x49 x50 x51 x52 x53 x54 x55 x56 x57 x58 x59 x60 x61 x62 x63 x64 x65 x66 x67 x68 x69 x70 x71 x72 x73 x74 x75 x76 x77 x78 x79 x80 x81 x82 x83 x84 x85 x86 x87 x88 x89 x90 x91 x92 x93 x94 x95 x96 x97 x98 x99 x100 x101 x102 x103 x104 x105 x106 x107 x108 x109 x110 x111 x112 x113 x114 x115 x116 x117 x118 x119 x120 x121 x122 x123 x124 x125 x126 x127 x128 x129 x130 x131 x132 x133 x134 x135 x136 x137 x138 x139 x140 x141 x142 x143 x144 x145 x146 x147 x148 x149 x150 x151 x152 x153 : Value) :
    On Tryd.prog Shun (G ((base 3).at ⟨#[(.agg #[.int .i64 (n : Int), .slice ea en ec]), (.int .i64 (sn : Int)), (.slice ca cn cc), (.slice oa on oc), (.int .i64 (nw : Int)), (.pointer (some ⟨w.heap.size, 0, none⟩)), x6, x7, x8, x9, (.bool false), (.int .i64 0), .nilIface, x13, (.pointer (some ⟨pa, 0, none⟩)), (.bool true), (.int .i64 0), (.pointer (some ⟨pb, 0, none⟩)), (.bool true), (.slice none 0 0), (.slice none 0 0), x21, x22, x23, x24, x25, x26, x27, x28, x29, x30, x31, x32, x33, x34, x35, x36, x37, x38, x39, x40, x41, x42, x43, x44, x45, x46, x47, x48, x49, x50, x51, x52, x53, x54, x55, x56, x57, x58, x59, x60, x61, x62, x63, x64, x65, x66, x67, x68, x69, x70, x71, x72, x73, x74, x75, x76, x77, x78, x79, x80, x81, x82, x83, x84, x85, x86, x87, x88, x89, x90, x91, x92, x93, x94, x95, x96, x97, x98, x99, x100, x101, x102, x103, x104, x105, x106, x107, x108, x109, x110, x111, x112, x113, x114, x115, x116, x117, x118, x119, x120, x121, x122, x123, x124, x125, x126, x127, x128, x129, x130, x131, x132, x133, x134, x135, x136, x137, x138, x139, x140, x141, x142, x143, x144, x145, x146, x147, x148, x149, x150, x151, x152, x153], []⟩ [.code (cT (cR (cL (cR (cR (cR (cR (cR (cR (cR (cR (cR (cR (cR (cR (cR (cR (bodyOf Tryd.f3)))))))))))))))))), .code (cR (cR (cR (cR (cR (cR (cR (cR (cR (cR (cR (cR (cR (cR (cR (bodyOf Tryd.f3))))))))))))))))]) []) V0 (LawEnd Tryd.prog Post) := by
  have CO0 := hide' hco
  have HX0 := hide' hx
  have TP0 := hide' ht
  have HE := hide' hE
  have HC := hide' hC
  have GG := hide' GC
  have N10 := hide' GC.ok.p2
  have HN := hide' hN
  clear hco hx ht hE hC GC hN
  simp only [cT, cR, cL, bodyOf, Tryd.f3, Option.getD_some] at HN
  simp only [cT, cR, cL, bodyOf, Tryd.f3, Option.getD_some]
  refine on_wp sand_mildZ (by k_ne) funcs3 inits3 (by decide +kernel) rfl HX0.out (fun v hv => ?_)
  have HV := hide' hv
  have CV := hide' (CO0.out.keep (keep_poi hv))
  clear hv
  have y0 := cell_of_row v _ 0 _ _ _ CV.out.gr
  have y1 := cell_of_row v _ 1 _ _ _ CV.out.gr
  simp at y0 y1
  have CT := hide' (refSettle_any n sn xs ea en ec cl ca cn cc v GG.out (CV.out.old.argE HE.out) (CV.out.old.arg HC.out))
  go_wp2_with fail
  refine CT.out.mono ?_
  rintro e v' ⟨b, ka, kq, kt, x, rfl, pl, st, rc, ru, h1, h2, _⟩
  have EU := hide' (show ∀ k, k < n → x k = u k from fun k hk => pl.same st CV.out.pl CV.out.st k hk)
  have RKV := hide' (And.intro rc h1)
  have RVV := hide' (And.intro ru h2)
  clear pl st rc ru h1 h2
  simp only [slS]
  have BB := hide' b
  clear CT b y0 y1 
  go_wp2
  intro V1 p hx sz tp
  have KU := keep_piece HV.out BB.out p
  have CO1 := hide' (CO0.out.keep KU)
  have HX1 := hide' hx
  have TP1 := hide' (tp.trans TP0.out)
  have RK1 := hide' (by have r := row_new HX0.out HV.out p RKV.out.1 RKV.out.2; exact And.intro (row_eq r.1 fun k hk => chS.congU EU.out hk) r.2)
  have RV1 := hide' (by have r := row_new HX0.out HV.out p RVV.out.1 RVV.out.2; exact And.intro (row_eq r.1 EU.out) r.2)
  clear KU p hx sz tp HV CV BB
  clear RKV RVV EU
  refine on_gp0 (n := 300) fun B hB => ?_
  have hc := atRel_c
  refine gp_seq (hc _) ?_
  refine Gp.stop (hc _) (fun w' hF => ?_)
  obtain ⟨d, rfl⟩ := hF
  refine ⟨d, rfl, ?_⟩
  clear hc hB B
  have CO2 := hide' (CO1.out.keep (keep_at d))
  have HX2 := hide' (HX1.out.at d)
  have TP2 := hide' (show (V1.at d).tape = w.tape from TP1.out)
  have RK2 := hide' (And.intro ((keep_at (X := Xs Shun) d).row RK1.out.1 RK1.out.2) RK1.out.2)
  have RV2 := hide' (And.intro ((keep_at (X := Xs Shun) d).row RV1.out.1 RV1.out.2) RV1.out.2)
  obtain ⟨V2, hV⟩ : ∃ V2, V1.at d = V2 := ⟨_, rfl⟩
  rw [hV] at CO2 HX2 TP2 RK2 RV2
  rw [hV]
  clear hV d
  refine on_wp sand_mildZ (by k_ne) funcs3 inits3 (by decide +kernel) rfl HX2.out (fun v hv => ?_)
  have HV := hide' hv
  have CV := hide' (CO2.out.keep (keep_poi hv))
  have RKv := hide' ((keep_poi hv).row RK2.out.1 RK2.out.2)
  clear hv
  have z0 := cell_of_row v _ 0 _ _ _ CV.out.ca
  have z1 := cell_of_row v _ 1 _ _ _ CV.out.ca
  simp at z0 z1
  have CT := hide' (ints_bel ((List.range n).map (chS n sn (btX xs) (chF cl) u)) ((List.range n).map (chS n sn (btX xs) (chF cl) u)) (some ⟨fa, 0, none⟩) (some ⟨ka, 0, none⟩) n fq n kq v (arg_of_row CV.out.rc N10.out) (arg_of_row RKv.out N10.out) rfl)
  go_wp2_with fail
  refine CT.out.mono ?_
  rintro e v' ⟨rfl, b⟩
  have BB := hide' b
  clear CT b z0 z1 RKv
  go_wp2
  intro V3 p hx sz tp
  have KU := keep_piece HV.out BB.out p
  have CO3 := hide' (CO2.out.keep KU)
  have HX3 := hide' hx
  have TP3 := hide' (tp.trans TP2.out)
  have RK3 := hide' (And.intro (KU.row RK2.out.1 RK2.out.2) RK2.out.2)
  have RV3 := hide' (And.intro (KU.row RV2.out.1 RV2.out.2) RV2.out.2)
  clear KU p hx sz tp HV CV BB
  refine on_gp0 (n := 300) fun B hB => ?_
  have hc := atRel_c
  refine gp_seq (hc _) ?_
  refine Gp.stop (hc _) (fun w' hF => ?_)
  obtain ⟨d, rfl⟩ := hF
  refine ⟨d, rfl, ?_⟩
  clear hc hB B
  have CO4 := hide' (CO3.out.keep (keep_at d))
  have HX4 := hide' (HX3.out.at d)
  have TP4 := hide' (show (V3.at d).tape = w.tape from TP3.out)
  have RK4 := hide' (And.intro ((keep_at (X := Xs Shun) d).row RK3.out.1 RK3.out.2) RK3.out.2)
  have RV4 := hide' (And.intro ((keep_at (X := Xs Shun) d).row RV3.out.1 RV3.out.2) RV3.out.2)
  obtain ⟨V4, hV⟩ : ∃ V4, V3.at d = V4 := ⟨_, rfl⟩
  rw [hV] at CO4 HX4 TP4 RK4 RV4
  rw [hV]
  clear hV d
  refine on_wp sand_mildZ (by k_ne) funcs3 inits3 (by decide +kernel) rfl HX4.out (fun v hv => ?_)
  have HV := hide' hv
  have CV := hide' (CO4.out.keep (keep_poi hv))
  have RVv := hide' ((keep_poi hv).row RV4.out.1 RV4.out.2)
  clear hv
  have z0 := cell_of_row v _ 0 _ _ _ CV.out.ca
  have z1 := cell_of_row v _ 1 _ _ _ CV.out.ca
  simp at z0 z1
  have CT := hide' (ints_bel ((List.range n).map u) ((List.range n).map u) (some ⟨ft, 0, none⟩) (some ⟨kt, 0, none⟩) n n n n v (arg_of_row CV.out.ru N10.out) (arg_of_row RVv.out N10.out) rfl)
  go_wp2_with fail
  refine CT.out.mono ?_
  rintro e v' ⟨rfl, b⟩
  have BB := hide' b
  clear CT b z0 z1 RVv
  go_wp2
  intro V5 p hx sz tp
  have KU := keep_piece HV.out BB.out p
  have CO5 := hide' (CO4.out.keep KU)
  have HX5 := hide' hx
  have TP5 := hide' (tp.trans TP4.out)
  have RK5 := hide' (And.intro (KU.row RK4.out.1 RK4.out.2) RK4.out.2)
  have RV5 := hide' (And.intro (KU.row RV4.out.1 RV4.out.2) RV4.out.2)
  clear KU p hx sz tp HV CV BB
  refine on_gp0 (n := 300) fun B hB => ?_
  have hc := atRel_c
  refine gp_seq (hc _) ?_
  refine gp_seq (hc _) ?_
  refine gp_region (hc _) ?_
  try simp only [List.size_toArray, List.length_cons, List.length_nil, Nat.reduceAdd, Nat.zero_add, List.range, List.range.loop]
  refine gp_opk (hc _) rfl rfl (by k_ne) (fun w hF K' hK => ?_)
  go_simp
  with_reducible refine hK _ (fun e' he => ?_) ?_
  · (clear hK; simp [go_sem] at he)
  clear hK K' hF
  clear w
  try walk_nrm
  refine gp_opk (hc _) rfl rfl (by k_ne) (fun w hF K' hK => ?_)
  go_simp
  with_reducible refine hK _ (fun e' he => ?_) ?_
  · (clear hK; simp [go_sem] at he)
  clear hK K' hF
  clear w
  try walk_nrm
  refine gp_opk (hc _) rfl rfl (by k_ne) (fun w hF K' hK => ?_)
  go_simp
  with_reducible refine hK _ (fun e' he => ?_) ?_
  · (clear hK; simp [go_sem] at he)
  clear hK K' hF
  clear w
  try walk_nrm
  refine gp_opk (hc _) rfl rfl (by k_ne) (fun w hF K' hK => ?_)
  go_simp
  with_reducible refine hK _ (fun e' he => ?_) ?_
  · (clear hK; simp [go_sem] at he)
  clear hK K' hF
  clear w
  try walk_nrm
  refine gp_opk (hc _) rfl rfl (by k_ne) (fun w hF K' hK => ?_)
  go_simp
  with_reducible refine hK _ (fun e' he => ?_) ?_
  · (clear hK; simp [go_sem] at he)
  clear hK K' hF
  clear w
  try walk_nrm
  refine gp_opk (hc _) rfl rfl (by k_ne) (fun w hF K' hK => ?_)
  go_simp
  with_reducible refine hK _ (fun e' he => ?_) ?_
  · (clear hK; simp [go_sem] at he)
  clear hK K' hF
  clear w
  try walk_nrm
  refine gp_opk (hc _) rfl rfl (by k_ne) (fun w hF K' hK => ?_)
  go_simp
  with_reducible refine hK _ (fun e' he => ?_) ?_
  · (clear hK; simp [go_sem] at he)
  clear hK K' hF
  clear w
  try walk_nrm
  refine gp_opk (hc _) rfl rfl (by k_ne) (fun w hF K' hK => ?_)
  go_simp
  with_reducible refine hK _ (fun e' he => ?_) ?_
  · (clear hK; simp [go_sem] at he)
  clear hK K' hF
  clear w
  try walk_nrm
  refine gp_opk (hc _) rfl rfl (by k_ne) (fun w hF K' hK => ?_)
  go_simp
  with_reducible refine hK _ (fun e' he => ?_) ?_
  · (clear hK; simp [go_sem] at he)
  clear hK K' hF
  clear w
  try walk_nrm
  refine gp_opk (hc _) rfl rfl (by k_ne) (fun w hF K' hK => ?_)
  go_simp
  with_reducible refine hK _ (fun e' he => ?_) ?_
  · (clear hK; simp [go_sem] at he)
  clear hK K' hF
  clear w
  try walk_nrm
  refine gp_opk (hc _) rfl rfl (by k_ne) (fun w hF K' hK => ?_)
  go_simp
  with_reducible refine hK _ (fun e' he => ?_) ?_
  · (clear hK; simp [go_sem] at he)
  clear hK K' hF
  clear w
  try walk_nrm
  refine gp_opk (hc _) rfl rfl (by k_ne) (fun w hF K' hK => ?_)
  go_simp
  with_reducible refine hK _ (fun e' he => ?_) ?_
  · (clear hK; simp [go_sem] at he)
  clear hK K' hF
  clear w
  try walk_nrm
  refine gp_opk (hc _) rfl rfl (by k_ne) (fun w hF K' hK => ?_)
  go_simp
  with_reducible refine hK _ (fun e' he => ?_) ?_
  · (clear hK; simp [go_sem] at he)
  clear hK K' hF
  clear w
  try walk_nrm
  refine gp_opk (hc _) rfl rfl (by k_ne) (fun w hF K' hK => ?_)
  go_simp
  with_reducible refine hK _ (fun e' he => ?_) ?_
  · (clear hK; simp [go_sem] at he)
  clear hK K' hF
  clear w
  try walk_nrm
  refine gp_done (hc _) ?_
  refine gp_cond (hc _) false rfl ?_
  refine gp_skip (hc _) ?_
  refine gp_seq (hc _) ?_
  refine gp_seq (hc _) ?_
  refine gp_region (hc _) ?_
  try simp only [List.size_toArray, List.length_cons, List.length_nil, Nat.reduceAdd, Nat.zero_add, List.range, List.range.loop]
  refine gp_opk (hc _) rfl rfl (by k_ne) (fun w hF K' hK => ?_)
  go_simp
  with_reducible refine hK _ (fun e' he => ?_) ?_
  · (clear hK; simp [go_sem] at he)
  clear hK K' hF
  clear w
  try walk_nrm
  refine gp_opk (hc _) rfl rfl (by k_ne) (fun w hF K' hK => ?_)
  go_simp
  with_reducible refine hK _ (fun e' he => ?_) ?_
  · (clear hK; simp [go_sem, ev_nil] at he)
  clear hK K' hF
  clear w
  try walk_nrm
  refine gp_done (hc _) ?_
  refine gp_cond (hc _) true rfl ?_
  refine gp_seq (hc _) ?_
  refine Gp.stop (hc _) (fun w' hF => ?_)
  obtain ⟨d, rfl⟩ := hF
  refine ⟨d, rfl, ?_⟩
  clear hc hB B
  have CO6 := hide' (CO5.out.keep (keep_at d))
  have HX6 := hide' (HX5.out.at d)
  have TP6 := hide' (show (V5.at d).tape = w.tape from TP5.out)
  have RK6 := hide' (And.intro ((keep_at (X := Xs Shun) d).row RK5.out.1 RK5.out.2) RK5.out.2)
  have RV6 := hide' (And.intro ((keep_at (X := Xs Shun) d).row RV5.out.1 RV5.out.2) RV5.out.2)
  obtain ⟨V6, hV⟩ : ∃ V6, V5.at d = V6 := ⟨_, rfl⟩
  rw [hV] at CO6 HX6 TP6 RK6 RV6
  rw [hV]
  clear hV d
  refine on_wp sand_mildZ (by k_ne) funcs3 inits3 (by decide +kernel) rfl HX6.out (fun v hv => ?_)
  have HV := hide' hv
  have CV := hide' (CO6.out.keep (keep_poi hv))
  have RKv := hide' ((keep_poi hv).row RK6.out.1 RK6.out.2)
  clear hv
  have u0 := cell_of_row v _ 0 _ _ _ CV.out.cb
  have u1 := cell_of_row v _ 1 _ _ _ CV.out.cb
  simp at u0 u1
  have CT := hide' (ints_bel ((List.range n).map (chS n sn (btX xs) (chF cl) u)) ((List.range n).map (chS n sn (btX xs) (chF cl) u)) (some ⟨g1, 0, none⟩) (some ⟨ka, 0, none⟩) n n n kq v (arg_of_row CV.out.r1 N10.out) (arg_of_row RKv.out N10.out) rfl)
  go_wp2_with fail
  refine CT.out.mono ?_
  rintro e v' ⟨rfl, b⟩
  have BB := hide' b
  clear CT b u0 u1 RKv
  go_wp2
  intro V7 p hx sz tp
  have KU := keep_piece HV.out BB.out p
  have CO7 := hide' (CO6.out.keep KU)
  have HX7 := hide' hx
  have TP7 := hide' (tp.trans TP6.out)
  have RK7 := hide' (And.intro (KU.row RK6.out.1 RK6.out.2) RK6.out.2)
  have RV7 := hide' (And.intro (KU.row RV6.out.1 RV6.out.2) RV6.out.2)
  clear KU p hx sz tp HV CV BB
  refine on_wp sand_mildZ (by k_ne) funcs3 inits3 (by decide +kernel) rfl HX7.out (fun v hv => ?_)
  have HV := hide' hv
  have CV := hide' (CO7.out.keep (keep_poi hv))
  have RVv := hide' ((keep_poi hv).row RV7.out.1 RV7.out.2)
  clear hv
  have u0 := cell_of_row v _ 0 _ _ _ CV.out.cb
  have u1 := cell_of_row v _ 1 _ _ _ CV.out.cb
  simp at u0 u1
  have CT := hide' (ints_bel ((List.range n).map u) ((List.range n).map u) (some ⟨g2, 0, none⟩) (some ⟨kt, 0, none⟩) n n n n v (arg_of_row CV.out.r2 N10.out) (arg_of_row RVv.out N10.out) rfl)
  go_wp2_with fail
  refine CT.out.mono ?_
  rintro e v' ⟨rfl, b⟩
  have BB := hide' b
  clear CT b u0 u1 RVv
  go_wp2
  intro V8 p hx sz tp
  have KU := keep_piece HV.out BB.out p
  have CO8 := hide' (CO7.out.keep KU)
  have HX8 := hide' hx
  have TP8 := hide' (tp.trans TP7.out)
  have RK8 := hide' (And.intro (KU.row RK7.out.1 RK7.out.2) RK7.out.2)
  have RV8 := hide' (And.intro (KU.row RV7.out.1 RV7.out.2) RV7.out.2)
  clear KU p hx sz tp HV CV BB
  refine on_gp0 (n := 300) fun B hB => ?_
  have hc := atRel_c
  refine gp_seq (hc _) ?_
  refine gp_region (hc _) ?_
  try simp only [List.size_toArray, List.length_cons, List.length_nil, Nat.reduceAdd, Nat.zero_add, List.range, List.range.loop]
  refine gp_opk (hc _) rfl rfl (by k_ne) (fun w hF K' hK => ?_)
  go_simp
  with_reducible refine hK _ (fun e' he => ?_) ?_
  · (clear hK; simp [go_sem] at he)
  clear hK K' hF
  clear w
  try walk_nrm
  refine gp_done (hc _) ?_
  refine gp_seq (hc _) ?_
  refine gp_seq (hc _) ?_
  refine gp_region (hc _) ?_
  try simp only [List.size_toArray, List.length_cons, List.length_nil, Nat.reduceAdd, Nat.zero_add, List.range, List.range.loop]
  refine gp_opk (hc _) rfl rfl (by k_ne) (fun w hF K' hK => ?_)
  go_simp
  with_reducible refine hK _ (fun e' he => ?_) ?_
  · (clear hK; simp [go_sem] at he)
  clear hK K' hF
  clear w
  try walk_nrm
  refine gp_opk (hc _) rfl rfl (by k_ne) (fun w hF K' hK => ?_)
  go_simp
  with_reducible refine hK _ (fun e' he => ?_) ?_
  · (clear hK; simp [go_sem, ev_nil] at he)
  clear hK K' hF
  clear w
  try walk_nrm
  refine gp_done (hc _) ?_
  refine gp_cond (hc _) true rfl ?_
  refine Gp.stop (hc _) (fun w' hF => ?_)
  obtain ⟨d, rfl⟩ := hF
  refine ⟨d, rfl, ?_⟩
  clear hc hB B
  have CO9 := hide' (CO8.out.keep (keep_at d))
  have HX9 := hide' (HX8.out.at d)
  have TP9 := hide' (show (V8.at d).tape = w.tape from TP8.out)
  obtain ⟨V9, hV⟩ : ∃ V9, V8.at d = V9 := ⟨_, rfl⟩
  rw [hV] at CO9 HX9 TP9 
  rw [hV]
  clear hV d
  exact HN.out V9 _ _ _ _ _ _ _ _ _ _ _ _ _ _ _ _ _ _ _ _ _ _ _ _ _ _ _ _ _ _ _ _ _ _ _ _ _ _ _ _ _ _ _ _ _ _ _ _ _ _ _ _ _ _ _ _ _ _ _ _ _ _ _ _ _ _ _ _ _ _ _ _ _ _ _ _ _ _ _ _ _ _ _ _ _ _ _ _ _ _ _ _ _ _ _ _ _ _ _ _ _ _ _ _ _ _ _ _ _ _ _ _ _ _ _ _ _ _ _ _ _ _ _ _ _ _ _ _ _ _ _ _ _ _ _ _ _ _ _ _ _ _ _ CO9.out HX9.out TP9.out
end Go.Proofs.YtpajdmhgonmgoaaDoor

namespace Go.Proofs.YtpajdmhgonmgoaaDoor
open Go.RowKit
set_option linter.unusedVariables false
open Go.RowKit Go.Extern.Stop Go.Stop Go.Extern
open Go.Conc Go.ConcN Go.RowKit Go.Conc.Lib Go.ConcR.Gen
set_option linter.unusedSimpArgs false
def mx (f : FuncId) : Event := ⟨.mark (.extern f), false, true⟩
def vP (t a : Addr) : Value := .agg #[.pointer (some ⟨1, 72, none⟩), .pointer (some a), .int .u64 150]
def rT (t : Nat) : Value := .iface 134 (.agg #[.pointer (some ⟨1, t, none⟩)])
theorem x_valueOfP (t : Addr) (w : World) (es : Array Event) : (callFunc 44 #[.iface 72 (.pointer (some t))]).runT Tryd.prog w es = (.ok (.value (vP t ⟨w.heap.size, 0, none⟩)) (w.alloc (.cells #[.pointer (some t)] 72)), es.push (mx 44)) := by kernel_rfl
theorem x_valueOfE (n : Int) (w : World) (es : Array Event) : (callFunc 44 #[.iface 48 (.int .i64 n)]).runT Tryd.prog w es = (.ok (.value (.agg #[.pointer (some ⟨1, 48, none⟩), .pointer (some ⟨w.heap.size, 0, none⟩), .int .u64 130])) (w.alloc (.cells #[.int .i64 n] 48)), es.push (mx 44)) := by kernel_rfl
theorem x_type (t a : Addr) (w : World) (es : Array Event) : (callFunc 45 #[vP t a]).runT Tryd.prog w es = (.ok (.value (rT 72)) w, es.push (mx 45)) := by kernel_rfl
theorem x_kindP (w : World) (es : Array Event) : (callMethod (rT 72) "Kind" #[]).runT Tryd.prog w es = (.ok (.value (.int .u8 22)) w, es.push (mx 92)) := by kernel_rfl
theorem x_kindE (w : World) (es : Array Event) : (callMethod (rT 48) "Kind" #[]).runT Tryd.prog w es = (.ok (.value (.int .u8 2)) w, es.push (mx 92)) := by kernel_rfl
theorem x_elem (w : World) (es : Array Event) : (callMethod (rT 72) "Elem" #[]).runT Tryd.prog w es = (.ok (.value (rT 48)) w, es.push (mx 102)) := by kernel_rfl
theorem x_impl (w : World) (es : Array Event) : (callMethod (rT 48) "Implements" #[rT 28]).runT Tryd.prog w es = (.ok (.value (.bool true)) w, es.push (mx 103)) := by kernel_rfl
theorem x_typeOf (v : Value) (w : World) (es : Array Event) : (callFunc 70 #[.iface 48 v]).runT Tryd.prog w es = (.ok (.value (rT 48)) w, es.push (mx 70)) := by kernel_rfl
theorem x_assign (w : World) (es : Array Event) : (callMethod (rT 48) "AssignableTo" #[rT 48]).runT Tryd.prog w es = (.ok (.value (.bool true)) w, es.push (mx 100)) := by kernel_rfl
end Go.Proofs.YtpajdmhgonmgoaaDoor

namespace Go.Proofs.YtpajdmhgonmgoaaDoor
open Go.RowKit
set_option linter.unusedVariables false
open Go.RowKit Go.Extern.Stop Go.Stop Go.Extern
open Go.Conc Go.ConcN Go.RowKit Go.Conc.Lib Go.ConcR.Gen
set_option linter.unusedSimpArgs false
theorem partsP_ev (t a : Addr) (w : World) (es : Array Event) : (ReflectliteValue.parts (vP t a)).events Tryd.prog w es = es := by kernel_rfl
theorem partsP_run (t a : Addr) (w : World) : (ReflectliteValue.parts (vP t a)).run Tryd.prog w = .ok (some (72, a, 150)) w := by kernel_rfl
def vE (a : Addr) (fl : Int) : Value := .agg #[.pointer (some ⟨1, 48, none⟩), .pointer (some a), .int .u64 fl]
theorem partsEa_ev (a : Addr) (w : World) (es : Array Event) : (ReflectliteValue.parts (vE a 386)).events Tryd.prog w es = es := by kernel_rfl
theorem partsEb_ev (a : Addr) (w : World) (es : Array Event) : (ReflectliteValue.parts (vE a 130)).events Tryd.prog w es = es := by kernel_rfl
theorem x_isNil (t a p : Addr) (W : World) (ha : W.cell? a = some (.pointer (some p))) :
    (callFunc 46 #[vP t a]).run Tryd.prog W = .ok (.value (.bool false)) W ∧ (callFunc 46 #[vP t a]).events Tryd.prog W #[] = #[mx 46, ⟨.cell a, false, false⟩] := by
  have h1 := @run_callFunc_extern Tryd.prog 46 _ (ReflectliteValue.method (ReflectliteValue.valueError "reflectlite.Value.IsNil" 0) ReflectliteValue.isNil) Tryd.func46 (by kernel_rfl) (by kernel_rfl) (by kernel_rfl) (by kernel_rfl)
  have h2 := @events_callFunc_extern Tryd.prog W 46 _ (ReflectliteValue.method (ReflectliteValue.valueError "reflectlite.Value.IsNil" 0) ReflectliteValue.isNil) Tryd.func46 (by kernel_rfl) (by kernel_rfl) (by kernel_rfl) (by kernel_rfl)
  constructor
  · have h3 := isNilP a p W ha
    have h4 : (ReflectliteValue.method (ReflectliteValue.valueError "reflectlite.Value.IsNil" 0) ReflectliteValue.isNil #[vP t a]).run Tryd.prog W = .ok (.bool false) W := h3
    simp [h1, h4]
  · rw [h2, rlm]
    simp only [Sem.events_bind, partsP_run, partsP_ev, Result.evThen_ok]
    simp [ReflectliteValue.isNil, loadVar, isAgg, underlying, Tryd.underlying72, ha, go_sem, mx]
theorem elemOfP_ev (w : World) (es : Array Event) : (Rtype.elem? 72).events Tryd.prog w es = es := by kernel_rfl
theorem mkE_ev (p : Addr) (w : World) (es : Array Event) : (ReflectliteValue.mk 48 p ReflectliteValue.flagAddr).events Tryd.prog w es = es := by kernel_rfl
theorem directE_ev (w : World) (es : Array Event) : (Rtype.directlyAssignable 48 48).events Tryd.prog w es = es := by kernel_rfl
theorem x_elemV (t a p : Addr) (W : World) (ha : W.cell? a = some (.pointer (some p))) :
    (callFunc 71 #[vP t a]).run Tryd.prog W = .ok (.value (vE p 386)) W ∧ (callFunc 71 #[vP t a]).events Tryd.prog W #[] = #[mx 71, ⟨.cell a, false, false⟩] := by
  have h1 := @run_callFunc_extern Tryd.prog 71 _ (ReflectliteValue.method (ReflectliteValue.valueError "reflectlite.Value.Elem" 0) ReflectliteValue.elem) Tryd.func71 (by kernel_rfl) (by kernel_rfl) (by kernel_rfl) (by kernel_rfl)
  have h2 := @events_callFunc_extern Tryd.prog W 71 _ (ReflectliteValue.method (ReflectliteValue.valueError "reflectlite.Value.Elem" 0) ReflectliteValue.elem) Tryd.func71 (by kernel_rfl) (by kernel_rfl) (by kernel_rfl) (by kernel_rfl)
  constructor
  · have h3 := elemVP a p W ha
    have h4 : (ReflectliteValue.method (ReflectliteValue.valueError "reflectlite.Value.Elem" 0) ReflectliteValue.elem #[vP t a]).run Tryd.prog W = .ok (vE p 386) W := h3
    simp [h1, h4]
  · rw [h2, rlm]
    simp only [Sem.events_bind, partsP_run, partsP_ev, Result.evThen_ok]
    simp [ReflectliteValue.elem, loadVar, isAgg, underlying, Tryd.underlying72, ha, go_sem, mx, elemOfP, elemOfP_ev, mkE, mkE_ev]
theorem x_set (ta b : Addr) (n : Int) (old : Value) (W : World) (hb : W.cell? b = some (.int .i64 n)) (ht : W.cell? ta = some old) (hf : W.frozen? ta = false) :
    (callFunc 72 #[vE ta 386, vE b 130]).run Tryd.prog W = .ok (.value (.tuple #[])) (W.setCell ta (.int .i64 n)) ∧ (callFunc 72 #[vE ta 386, vE b 130]).events Tryd.prog W #[] = #[mx 72, ⟨.cell b, false, false⟩, ⟨.cell ta, true, false⟩] := by
  have h1 := @run_callFunc_extern Tryd.prog 72 _ ReflectliteValue.set Tryd.func72 (by kernel_rfl) (by kernel_rfl) (by kernel_rfl) (by kernel_rfl)
  have h2 := @events_callFunc_extern Tryd.prog W 72 _ ReflectliteValue.set Tryd.func72 (by kernel_rfl) (by kernel_rfl) (by kernel_rfl) (by kernel_rfl)
  have pa : (ReflectliteValue.parts (vE ta 386)).run Tryd.prog W = .ok (some (48, ta, 386)) W := partsEa ta W
  have pb : (ReflectliteValue.parts (vE b 130)).run Tryd.prog W = .ok (some (48, b, 130)) W := partsE b W
  constructor
  · have h3 := setE ta b n old W hb ht hf
    have h4 : (ReflectliteValue.set #[vE ta 386, vE b 130]).run Tryd.prog W = .ok (.tuple #[]) (W.setCell ta (.int .i64 n)) := h3
    simp [h1, h4]
  · rw [h2, rls]
    simp only [Sem.events_bind, pa, pb, partsEa_ev, partsEb_ev, Result.evThen_ok]
    have ad : ta.add 0 = ta := by simp [Addr.add]
    have bd : b.add 0 = b := by simp [Addr.add]
    simp [ReflectliteValue.flagAddr, loadVar, isAgg, underlying, Tryd.underlying48, hb, go_sem, mx, directE, directE_ev, storeVar, Value.cells, storeCells, ad, bd, ht, hf]
end Go.Proofs.YtpajdmhgonmgoaaDoor

namespace Go.Proofs.YtpajdmhgonmgoaaDoor
open Go.RowKit
set_option linter.unusedVariables false
open Go.Conc Go.ConcN Go.RowKit Go.Conc.Lib Go.ConcR.Gen
set_option linter.unusedSimpArgs false
theorem alE {ev : Operand → Value} {o : Oper} (ho : o.op = .alloc 48) (w : World) : (execOp ev o).runT Tryd.prog w #[] = (.ok (.value (.pointer (some ⟨w.heap.size, 0, none⟩))) (w.alloc (.cells #[.int .i64 0] 48)), #[]) := by
  obtain ⟨dst, op, ty, pos, after, guard⟩ := o
  dsimp only at ho
  subst ho
  kernel_rfl
theorem alV {ev : Operand → Value} {o : Oper} (ho : o.op = .alloc 103) (w : World) : (execOp ev o).runT Tryd.prog w #[] = (.ok (.value (.pointer (some ⟨w.heap.size, 0, none⟩))) (w.alloc (.cells #[.pointer none, .pointer none, .int .u64 0] 103)), #[]) := by
  obtain ⟨dst, op, ty, pos, after, guard⟩ := o
  dsimp only at ho
  subst ho
  kernel_rfl
theorem cf1 {a : Act} {o : Oper} {f : FuncId} {x : Operand} {ats : Array TypeId} (ho : o.op = .call { callee := .value (.func f), args := #[x], argTypes := ats }) : execOp a.eval o = callFunc f #[a.eval x] := by
  obtain ⟨dst, op, ty, pos, after, guard⟩ := o
  dsimp only at ho
  subst ho
  show callFunc f ((#[] ++ #[x].map a.eval) ++ #[]) = _
  simp
theorem cf2 {a : Act} {o : Oper} {f : FuncId} {x y : Operand} {ats : Array TypeId} (ho : o.op = .call { callee := .value (.func f), args := #[x, y], argTypes := ats }) : execOp a.eval o = callFunc f #[a.eval x, a.eval y] := by
  obtain ⟨dst, op, ty, pos, after, guard⟩ := o
  dsimp only at ho
  subst ho
  show callFunc f ((#[] ++ #[x, y].map a.eval) ++ #[]) = _
  simp
theorem cm0 {a : Act} {o : Oper} {r : Operand} {name : String} {ats : Array TypeId} (ho : o.op = .call { callee := .invoke r name, args := #[], argTypes := ats }) : execOp a.eval o = callMethod (a.eval r) name #[] := by
  obtain ⟨dst, op, ty, pos, after, guard⟩ := o
  dsimp only at ho
  subst ho
  simp [execOp, go_sem]
theorem cm1 {a : Act} {o : Oper} {r x : Operand} {name : String} {ats : Array TypeId} (ho : o.op = .call { callee := .invoke r name, args := #[x], argTypes := ats }) : execOp a.eval o = callMethod (a.eval r) name #[a.eval x] := by
  obtain ⟨dst, op, ty, pos, after, guard⟩ := o
  dsimp only at ho
  subst ho
  simp [execOp, go_sem]
/-- A row of three cells that lies. -/
def V3 (p q r : Value) (w : World) (g : Nat) : Prop := w.heap[g]? = some (.cells #[p, q, r] 103 (0, 0))
theorem v3_cells {p q r : Value} {w : World} {g : Nat} (h : V3 p q r w g) : w.cell? ⟨g, 0, none⟩ = some p ∧ w.cell? ⟨g, 1, none⟩ = some q ∧ w.cell? ⟨g, 2, none⟩ = some r := ⟨cell_of_row w g 0 _ _ _ h, cell_of_row w g 1 _ _ _ h, cell_of_row w g 2 _ _ _ h⟩
theorem ld103 {a : Act} {o : Oper} {x : Operand} {p q r : Value} {w : World} {g : Nat} (ho : o.op = .load 103 x) (hx : a.eval x = .pointer (some ⟨g, 0, none⟩)) (h : V3 p q r w g) :
    (execOp a.eval o).run Tryd.prog w = .ok (.value (.agg #[p, q, r])) w ∧ (execOp a.eval o).events Tryd.prog w #[] = #[⟨.cell ⟨g, 0, none⟩, false, false⟩, ⟨.cell ⟨g, 1, none⟩, false, false⟩, ⟨.cell ⟨g, 2, none⟩, false, false⟩] := by
  obtain ⟨k0, k1, k2⟩ := v3_cells h
  have e : execOp a.eval o = (Instr.loadAt 103 (.pointer (some ⟨g, 0, none⟩)) >>= fun y => pure (Next.value y)) := by
    obtain ⟨dst, op, ty, pos, after, guard⟩ := o
    dsimp only at ho
    subst ho
    show (Instr.loadAt 103 (a.eval x) >>= fun y => pure (Next.value y)) = _
    rw [hx]
  rw [e]
  constructor
  · simp [go_sem, loadCells, k0, k1, k2, Addr.add]
  · simp [go_sem, loadCells, k0, k1, k2, Addr.add]
theorem ev_storeP {w : World} {a : Addr} {z : Option Addr} {old : Value} {es : Array Event} (h1 : w.cell? a = some old) (h2 : w.frozen? a = false) : (store a (.pointer z)).events Tryd.prog w es = es.push ⟨.cell a, true, false⟩ := by
  show ((Sem.store .plain a (.pointer z) (.pure ())).runT Tryd.prog w es).2 = _
  simp [Sem.runT, h1, h2]
  rfl
theorem st103 {a : Act} {o : Oper} {x y : Operand} {p q r : Value} {t c : Addr} {n : Int} {w : World} {g : Nat} (ho : o.op = .store 103 x y) (hx : a.eval x = .pointer (some ⟨g, 0, none⟩)) (hy : a.eval y = .agg #[.pointer (some t), .pointer (some c), .int .u64 n]) (h : V3 p q r w g) :
    ∃ w', (execOp a.eval o).run Tryd.prog w = .ok .skip w' ∧ (execOp a.eval o).events Tryd.prog w #[] = #[⟨.cell ⟨g, 0, none⟩, true, false⟩, ⟨.cell ⟨g, 1, none⟩, true, false⟩, ⟨.cell ⟨g, 2, none⟩, true, false⟩] ∧ w' = (((w.setCell ⟨g, 0, none⟩ (.pointer (some t))).setCell ⟨g, 1, none⟩ (.pointer (some c))).setCell ⟨g, 2, none⟩ (.int .u64 n)) := by
  obtain ⟨k0, k1, k2⟩ := v3_cells h
  have f0 := frozen_of_row w g 0 _ _ h
  have h1 := heap_setCell_same w g 0 _ _ (.pointer (some t)) h
  have k1' := cell_of_row _ g 1 _ _ _ h1
  have f1 := frozen_of_row _ g 1 _ _ h1
  have h2 := heap_setCell_same _ g 1 _ _ (.pointer (some c)) h1
  have k2' := cell_of_row _ g 2 _ _ _ h2
  have f2 := frozen_of_row _ g 2 _ _ h2
  simp at k1' k2'
  have e : execOp a.eval o = (Instr.storeAt 103 (.pointer (some ⟨g, 0, none⟩)) (.agg #[.pointer (some t), .pointer (some c), .int .u64 n]) >>= fun _ => pure Next.skip) := by
    obtain ⟨dst, op, ty, pos, after, guard⟩ := o
    dsimp only at ho
    subst ho
    show (Instr.storeAt 103 (a.eval x) (a.eval y) >>= fun _ => pure Next.skip) = _
    rw [hx, hy]
  rw [e]
  refine ⟨_, ?_, ?_, rfl⟩
  · simp [go_sem, storeCells, k0, k1', k2', f0, f1, f2, Addr.add]
  · simp [go_sem, storeCells, k0, k1', k2', f0, f1, f2, Addr.add, ev_storeP k0 f0, ev_storeP k1' f1]
theorem bx103 {a : Act} {o : Oper} {x : Operand} {p q r : Value} {w : World} (ho : o.op = .box 103 x) (hx : a.eval x = .agg #[p, q, r]) : (execOp a.eval o).runT Tryd.prog w #[] = (.ok (.value (.pointer (some ⟨w.heap.size, 0, none⟩))) (w.alloc (.cells #[p, q, r] 103)), #[]) := by
  obtain ⟨dst, op, ty, pos, after, guard⟩ := o
  dsimp only at ho
  subst ho
  show ((Instr.box 103 (a.eval x)) >>= fun y => pure (Next.value y) : Sem Next).runT _ _ _ = _
  rw [hx]
  kernel_rfl
theorem runT_two {α : Type} {s : Sem α} {w : World} {r : Result α} {es : Array Event} (h : s.runT Tryd.prog w #[] = (r, es)) : s.run Tryd.prog w = r ∧ s.events Tryd.prog w #[] = es := by
  constructor
  · rw [← Sem.runT_fst Tryd.prog s w #[], h]
  · show (s.runT Tryd.prog w #[]).2 = es
    rw [h]
theorem ev_eqI (w : World) (et : TypeId) (ed : Value) : (binOp .eql 28 (.iface et ed) .nilIface).events Tryd.prog w #[] = #[] := by
  have h : ∀ (d : Nat) (es : Array Event), (Op.equalIn (d + 1) 28 (.iface et ed) .nilIface).events Tryd.prog w es = es := fun d es => by
    simp [Op.equalIn, run_underlying Tryd.underlying28]
  simp only [binOp]
  simp [Op.equal, Op.maxDepth, h 9999]
theorem ev_eqA (w : World) (et : TypeId) (ed : Value) : (binOp .eql 20 (.iface et ed) .nilIface).events Tryd.prog w #[] = #[] := by
  have h : ∀ (d : Nat) (es : Array Event), (Op.equalIn (d + 1) 20 (.iface et ed) .nilIface).events Tryd.prog w es = es := fun d es => by
    simp [Op.equalIn, run_underlying Tryd.underlying20]
  simp only [binOp]
  simp [Op.equal, Op.maxDepth, h 9999]
theorem mem_threeE {a b c : Event} {Q : Event → Prop} {e : Event} (h : e ∈ #[a, b, c]) (h1 : Q a) (h2 : Q b) (h3 : Q c) : Q e := by
  simp only [List.mem_toArray, List.mem_cons, List.not_mem_nil, or_false] at h
  rcases h with rfl | rfl | rfl
  · exact h1
  · exact h2
  · exact h3
theorem mem_oneE {a : Event} {Q : Event → Prop} {e : Event} (h : e ∈ #[a]) (h1 : Q a) : Q e := by
  simp only [List.mem_toArray, List.mem_cons, List.not_mem_nil, or_false] at h
  rcases h with rfl
  exact h1
theorem evL_mx {Shun : Loc → Prop} {B : Nat} (f : FuncId) : EvL Shun B (mx f) := ⟨fun x hx => by simp [mx, MemAct.ofEvent, MemAct.touch?] at hx, by simp [mx], by simp [mx], trivial⟩
section
variable {E : Event → Prop} {S : Goroutine → World → Prop} {fb : Frame} {a : Act} {k : List Item} {cs : List Frame} {m : Nat}
/-- One operation by what it comes to and lists. -/
theorem gp_extR {ops : Array Oper} {i : Nat} {rest : List Nat} {o : Oper} (ho : ops[i]? = some o) (hw : Region.wanted o (yielded ops a.tmps) = true) (hk : fb.kind ≠ .early) {s : Sem Next} (hs : execOp a.eval o = s) (v : Value) (w0 w1 : World) (es : Array Event)
    (hR : ∀ d, s.run Tryd.prog (w0.at d) = .ok (.value v) (w1.at d) ∨ (s.run Tryd.prog (w0.at d) = .ok .skip (w1.at d) ∧ v = undef)) (hV : ∀ d, s.events Tryd.prog (w0.at d) #[] = es) (hE : ∀ e ∈ es, E e)
    (hn : Gp Tryd.prog E S m (G (fb.at (a.put o.dst v) (.inRegion ops rest :: k)) cs) (AtRel w1)) : Gp Tryd.prog E S (m + 1) (G (fb.at a (.inRegion ops (i :: rest) :: k)) cs) (AtRel w0) :=
  gp_valw (F' := AtRel w1) (atRel_c _) ho hw hk v (fun w hF => by
    obtain ⟨d, rfl⟩ := hF
    refine ⟨w1.at d, ?_, fun e he => ?_, ⟨d, rfl⟩⟩
    · rw [hs]; exact hR d
    · rw [hs, hV d] at he; exact hE e he) hn
end
end Go.Proofs.YtpajdmhgonmgoaaDoor

