/-
  What the last text of this claim leans on, part 45: Td7, Td8, So1, OpenP.
-/
import Derived.Test.YtpajdmhgonmgoaaDoorYt43
import Derived.Test.YtpajdmhgonmgoaaDoorYt44
import Derived.Test.YtpajdmhgonmgoaaDoorYt37
import Derived.Test.YtpajdmhgonmgoaaDoorYt21
import Derived.Test.YtpajdmhgonmgoaaDoorRows
import Derived.Test.YtpajdmhgonmgoaaDoorCards
import Derived.Test.YtpajdmhgonmgoaaDoorTie
import Derived.Test.YtpajdmhgonmgoaaDoorYt40
import Derived.Conc.LeavingOf
import Derived.ProofKit
import Derived.OpenShut
import Derived.ChangeSame
import Derived.ChangeSlices
import Derived.ChangeVars
import Derived.JoinedOf
import Derived.RowKit
import Derived.RowKitTokens
import Derived.LaidLaws
import Derived.LaidHandle
import Derived.LaidSub
import Derived.Lay
import Derived.Carry
import Derived.Stop.Joined
import Derived.SevenTiedAt
namespace Go.Proofs.YtpajdmhgonmgoaaDoor
open Go.RowKit
set_option linter.unusedVariables false
open Go.Conc Go.ConcN Go.RowKit
set_option linter.unusedSimpArgs false
/-- Own steps that make ten rows at most. -/
theorem on_gpx {P : Program} {Shun : Loc → Prop} {T : Machine → Trace → Prop} {g : Goroutine} {V : World} {n : Nat} (hG : ∀ B, V.heap.size ≤ B → Gp P (EvL Shun (B + 10)) (fun h w' => w'.heap.size ≤ B + 10 ∧ On P Shun h w' T) n g (AtRel V)) : On P Shun g V T := fun B m t hB hb => by
  obtain ⟨N, m1, t1, g1, w1, r1, ⟨hs, hn⟩, hb1⟩ := bes_walk (hG B hB) (atRel_refl V) (hb.mono (by omega))
  obtain ⟨N2, m2, t2, u1, u2⟩ := hn (B + 10) m1 t1 hs hb1
  exact ⟨N + N2, m2, t2, by rw [runNT_then r1]; exact u1, u2⟩
set_option maxRecDepth 100000 in
set_option maxHeartbeats 25600000 in
/-- Beside leavers: by an order. -/
theorem settles_end {Post : Value → World → Prop} {n sn nw : Nat} {en ec cn cc on oc : Nat} {xs : List EgT} {cl : List Int} {ea ca oa : Option Addr} {w : World} {Shun : Loc → Prop} {pa fa fq ft pb g1 g2 : Nat} {u : Nat → Int} {V0 : World} (hE : ArgE w xs ea en ec) (hC : ArgP w cl ca cn cc) (GC : GoodC n sn xs cl) {os : List Int} (hO : ArgP w os oa on oc) (hg : Handle w) (hpost : ∀ V : World, Below w.heap.size w V → Post (.bool true) V) (hco : CoS w n sn xs cl ea en ec pa fa fq ft pb g1 g2 u (Xs Shun) V0) (hx : Cx Shun V0) (ht : V0.tape = w.tape) (x6 x7 x8 x9 x12 x13 x14 x15 x16 x17 x18 x19 x20 x24 x25 x26 x27 x28 x29 x30 x31 x32 x33 x34 x35 x36 x37 x38 x39 x40 x41 x42 x43 x44 x45 x46 x47 x48 x49 x50 x51 x52 x53 x54 x55 x56 x57 x58 x59 x60 x61 x62 x63 x64 x65 x66 x67 x68 x69 x70 x71 x72 x73 x74 x75 x76 x77 x78 x79 x80 x81 x82 x83 x84 x85 x86 x87 x88 x89 x90 x91 x92 x93 x94 x95 x96 x97 x98 x99 x100 x101 x102 x103 x104 x105 x106 x107 x108 x109 x110 x111 x112 x113 x114 x115 x116 x117 x118 x119 x120 x121 x122 x123 x124 x125 x126 x127 x128 x129 x130 x131 x132 x133 x134 x135 x136 x137 x138 x139 x140 x141 x142 x143 x144 x145 x146 x147 x148 x149 x150 x151 x152 x153 : Value) :
    On Tryd.prog Shun (G ((base 3).at ⟨#[(.agg #[.int .i64 (n : Int), .slice ea en ec]), (.int .i64 (sn : Int)), (.slice ca cn cc), (.slice oa on oc), (.int .i64 (nw : Int)), (.pointer (some ⟨w.heap.size, 0, none⟩)), x6, x7, x8, x9, (.bool false), (.int .i64 0), x12, x13, x14, x15, x16, x17, x18, x19, x20, (.bool true), (.bool true), (.slice none 0 0), x24, x25, x26, x27, x28, x29, x30, x31, x32, x33, x34, x35, x36, x37, x38, x39, x40, x41, x42, x43, x44, x45, x46, x47, x48, x49, x50, x51, x52, x53, x54, x55, x56, x57, x58, x59, x60, x61, x62, x63, x64, x65, x66, x67, x68, x69, x70, x71, x72, x73, x74, x75, x76, x77, x78, x79, x80, x81, x82, x83, x84, x85, x86, x87, x88, x89, x90, x91, x92, x93, x94, x95, x96, x97, x98, x99, x100, x101, x102, x103, x104, x105, x106, x107, x108, x109, x110, x111, x112, x113, x114, x115, x116, x117, x118, x119, x120, x121, x122, x123, x124, x125, x126, x127, x128, x129, x130, x131, x132, x133, x134, x135, x136, x137, x138, x139, x140, x141, x142, x143, x144, x145, x146, x147, x148, x149, x150, x151, x152, x153], []⟩ [.code (cT (cR (cL (cR (cR (cR (cR (cR (cR (cR (cR (cR (cR (cR (cR (cR (cR (cR (cR (cR (cR (cR (cR (bodyOf Tryd.f3)))))))))))))))))))))))), .code (cR (cR (cR (cR (cR (cR (cR (cR (cR (cR (cR (cR (cR (cR (cR (cR (cR (cR (cR (cR (cR (bodyOf Tryd.f3))))))))))))))))))))))]) []) V0 (LawEnd Tryd.prog Post) := by
  have CO0 := hide' hco
  have HX0 := hide' hx
  have TP0 := hide' ht
  have HE := hide' hE
  have HC := hide' hC
  have HO := hide' hO
  have GG := hide' GC
  have HH := hide' hg
  have HP := hide' hpost
  have N10 := hide' GC.ok.p2
  have nE := hide' (show ¬ Shun (.cell ⟨0, 0, none⟩) from fun h => hco.xo _ (Nat.le_of_lt hg.lt) ⟨_, h, rfl⟩)
  clear hco hx ht hE hC hO hg hpost GC
  simp only [cT, cR, cL, bodyOf, Tryd.f3, Option.getD_some]
  refine on_wp sand_mildZ (by k_ne) funcs3 inits3 (by decide +kernel) rfl HX0.out (fun v hv => ?_)
  have HV := hide' hv
  have CV := hide' (CO0.out.keep (keep_poi hv))
  clear hv
  have y0 := cell_of_row v _ 0 _ _ _ CV.out.gr
  have y1 := cell_of_row v _ 1 _ _ _ CV.out.gr
  simp at y0 y1
  have CT := hide' (refTop_any n sn xs ea en ec cl ca cn cc os oa on oc v GG.out (CV.out.old.argE HE.out) (CV.out.old.arg HC.out) (CV.out.old.arg HO.out))
  go_wp2_with fail
  refine CT.out.mono ?_
  rintro e v' ⟨b, f4, hf4, hout⟩
  have HT := hide' hf4
  have BB := hide' b
  clear CT b hf4 y0 y1
  rcases hout with ⟨f0, rfl⟩ | ⟨rfl, ya, yq, rfl, ry, hy⟩
  · have F0 := hide' f0
    clear f0
    go_wp2
    intro V1 p hx sz tp
    have KU := keep_piece HV.out BB.out p
    have CO1 := hide' (CO0.out.keep KU)
    have HX1 := hide' hx
    have TP1 := hide' (tp.trans TP0.out)
    clear KU p hx sz tp HV CV BB
    refine on_gp0 (n := 300) fun B hB => ?_
    have hc := atRel_c
    refine gp_seq (hc _) ?_
    refine Gp.stop (hc _) (fun w' hF => ?_)
    obtain ⟨d, rfl⟩ := hF
    refine ⟨d, rfl, ?_⟩
    clear hc hB B
    have CO2 := hide' (CO1.out.keep (keep_at d))
    have HX2 := hide' (HX1.out.at d)
    have TP2 := hide' (show (V1.at d).tape = w.tape from TP1.out)
    obtain ⟨V2, hV⟩ : ∃ V2, V1.at d = V2 := ⟨_, rfl⟩
    rw [hV] at CO2 HX2 TP2 
    rw [hV]
    clear hV d
    refine on_wp sand_mildZ (by k_ne) funcs3 inits3 (by decide +kernel) rfl HX2.out (fun v hv => ?_)
    have HV := hide' hv
    have CV := hide' (CO2.out.keep (keep_poi hv))
    clear hv
    have y0 := cell_of_row v _ 0 _ _ _ CV.out.gr
    have y1 := cell_of_row v _ 1 _ _ _ CV.out.gr
    simp at y0 y1
    have CT := hide' (toppleA_any (n : Int) xs ea en ec (sn : Int) cl ca cn cc os oa on oc v (CV.out.old.argE HE.out) (CV.out.old.arg HC.out) (CV.out.old.arg HO.out))
    go_wp2_with fail
    refine CT.out.mono ?_
    rintro e v' ⟨b, f5, hout⟩
    rcases hout with ⟨h5, hf5, _⟩ | ⟨Q', sn5, eQ, es5, G5, hT5, hout⟩
    case inl => exact (h5 (hf5.only GG.out.is)).elim
    obtain rfl : n = Q' := by omega
    obtain rfl : sn = sn5 := by omega
    obtain rfl : f5 = f4 := hT5.only HT.out
    rcases hout with ⟨_, rfl⟩ | ⟨h5, _⟩
    case inr => exact (F0.out h5).elim
    rw [errOf_not F0.out]
    have BB := hide' b
    clear CT b y0 y1 eQ es5 G5 hT5
    go_wp2
    intro V3 p hx sz tp
    have KU := keep_piece HV.out BB.out p
    have CO3 := hide' (CO2.out.keep KU)
    have HX3 := hide' hx
    have TP3 := hide' (tp.trans TP2.out)
    clear KU p hx sz tp HV CV BB
    refine on_gpx (n := 400) fun B hB => ?_
    have hc := atRel_c
    refine gp_seq (hc _) ?_
    refine gp_region (hc _) ?_
    try simp only [List.size_toArray, List.length_cons, List.length_nil, Nat.reduceAdd, Nat.zero_add, List.range, List.range.loop]
    refine gp_opk (hc _) rfl rfl (by k_ne) (fun w hF K' hK => ?_)
    go_simp
    with_reducible refine hK _ (fun e' he => ?_) ?_
    · (clear hK; simp [go_sem] at he)
    clear hK K' hF
    clear w
    try walk_nrm
    refine gp_opk (hc _) rfl rfl (by k_ne) (fun w hF K' hK => ?_)
    go_simp
    with_reducible refine hK _ (fun e' he => ?_) ?_
    · (clear hK; simp [go_sem] at he)
    clear hK K' hF
    clear w
    try walk_nrm
    refine err_x (f := (f5 : Int)) rfl rfl (by k_ne) rfl rfl rfl (HH.out.below (CO3.out.old.below TP3.out)) (fun b h1 h2 => by have := HX3.out.low b h2; omega) nE.out (by omega) ?_
    intro V4 b hsz
    try walk_nrm
    have CO4 := hide' (CO3.out.keep (keep_below b))
    have HX4 := hide' (show Cx Shun V4 from ⟨HX3.out.kind, fun a ha => Nat.lt_of_lt_of_le (HX3.out.low a ha) b.size, fun r hr => by
      obtain ⟨o, h1, h2⟩ := HX3.out.chan r hr
      exact ⟨o, (b.block r (ltS_of_block h1)).trans h1, h2⟩⟩)
    have TP4 := hide' (b.tape.trans TP3.out)
    have SZ := hide' (show V4.heap.size ≤ B + 10 by omega)
    clear hsz b
    refine gp_opk (hc _) rfl rfl (by k_ne) (fun w hF K' hK => ?_)
    go_simp
    with_reducible refine hK _ (fun e' he => ?_) ?_
    · (clear hK; simp [go_sem] at he)
    clear hK K' hF
    clear w
    try walk_nrm
    refine gp_done (hc _) ?_
    refine gp_seq (hc _) ?_
    refine Gp.stop (hc _) (fun w' hF => ?_)
    obtain ⟨d, rfl⟩ := hF
    refine ⟨SZ.out, ?_⟩
    clear hc hB SZ B
    have CO5 := hide' (CO4.out.keep (keep_at d))
    have HX5 := hide' (HX4.out.at d)
    have TP5 := hide' (show (V4.at d).tape = w.tape from TP4.out)
    obtain ⟨V5, hV⟩ : ∃ V5, V4.at d = V5 := ⟨_, rfl⟩
    rw [hV] at CO5 HX5 TP5
    rw [hV]
    clear hV d
    refine on_wp sand_mildZ (by k_ne) funcs3 inits3 (by decide +kernel) rfl HX5.out (fun v hv => ?_)
    have HV := hide' hv
    have CV := hide' (CO5.out.keep (keep_poi hv))
    clear hv
    have CT := hide' (ints_bel [] [] none none 0 0 0 0 v (argP_nil _) (argP_nil _) rfl)
    go_wp2_with fail
    refine CT.out.mono ?_
    rintro e v' ⟨rfl, b⟩
    have BB := hide' b
    clear CT b  
    go_wp2
    intro V6 p hx sz tp
    have KU := keep_piece HV.out BB.out p
    have CO6 := hide' (CO5.out.keep KU)
    have HX6 := hide' hx
    have TP6 := hide' (tp.trans TP5.out)
    clear KU p hx sz tp HV CV BB
    refine on_end (n := 300) fun B hB => ?_
    have hc := atRel_c
    refine gp_seq (hc _) ?_
    refine gp_region (hc _) ?_
    try simp only [List.size_toArray, List.length_cons, List.length_nil, Nat.reduceAdd, Nat.zero_add, List.range, List.range.loop]
    refine gp_opk (hc _) rfl rfl (by k_ne) (fun w hF K' hK => ?_)
    go_simp
    with_reducible refine hK _ (fun e' he => ?_) ?_
    · (clear hK; simp [go_sem] at he)
    clear hK K' hF
    clear w
    try walk_nrm
    refine gp_opk (hc _) rfl rfl (by k_ne) (fun w hF K' hK => ?_)
    go_simp
    with_reducible refine hK _ (fun e' he => ?_) ?_
    · (clear hK; simp [go_sem] at he)
    clear hK K' hF
    clear w
    try walk_nrm
    refine gp_opk (hc _) rfl rfl (by k_ne) (fun w hF K' hK => ?_)
    go_simp
    with_reducible refine hK _ (fun e' he => ?_) ?_
    · (clear hK; simp [go_sem] at he)
    clear hK K' hF
    clear w
    try walk_nrm
    refine gp_opk (hc _) rfl rfl (by k_ne) (fun w hF K' hK => ?_)
    go_simp
    with_reducible refine hK _ (fun e' he => ?_) ?_
    · (clear hK; simp [go_sem] at he)
    clear hK K' hF
    clear w
    try walk_nrm
    refine gp_opk (hc _) rfl rfl (by k_ne) (fun w hF K' hK => ?_)
    go_simp
    with_reducible refine hK _ (fun e' he => ?_) ?_
    · (clear hK; simp [go_sem] at he)
    clear hK K' hF
    clear w
    try walk_nrm
    refine gp_opk (hc _) rfl rfl (by k_ne) (fun w hF K' hK => ?_)
    go_simp
    with_reducible refine hK _ (fun e' he => ?_) ?_
    · (clear hK; simp [go_sem] at he)
    clear hK K' hF
    clear w
    try walk_nrm
    refine gp_opk (hc _) rfl rfl (by k_ne) (fun w hF K' hK => ?_)
    go_simp
    with_reducible refine hK _ (fun e' he => ?_) ?_
    · (clear hK; simp [go_sem] at he)
    clear hK K' hF
    clear w
    try walk_nrm
    refine gp_opk (hc _) rfl rfl (by k_ne) (fun w hF K' hK => ?_)
    go_simp
    with_reducible refine hK _ (fun e' he => ?_) ?_
    · (clear hK; simp [go_sem] at he)
    clear hK K' hF
    clear w
    try walk_nrm
    refine gp_opk (hc _) rfl rfl (by k_ne) (fun w hF K' hK => ?_)
    go_simp
    with_reducible refine hK _ (fun e' he => ?_) ?_
    · (clear hK; simp [go_sem] at he)
    clear hK K' hF
    clear w
    try walk_nrm
    refine gp_opk (hc _) rfl rfl (by k_ne) (fun w hF K' hK => ?_)
    go_simp
    with_reducible refine hK _ (fun e' he => ?_) ?_
    · (clear hK; simp [go_sem] at he)
    clear hK K' hF
    clear w
    try walk_nrm
    refine gp_opk (hc _) rfl rfl (by k_ne) (fun w hF K' hK => ?_)
    go_simp
    with_reducible refine hK _ (fun e' he => ?_) ?_
    · (clear hK; simp [go_sem] at he)
    clear hK K' hF
    clear w
    try walk_nrm
    refine gp_done (hc _) ?_
    refine gp_ret (hc _) ?_
    refine Gp.stop (hc _) (fun w' hF => ⟨rfl, .bool true, #[], ?_, fun e he => by simp at he, ?_⟩)
    · exact ends_here rfl rfl Tryd.func3 inits3 rfl rfl
    · obtain ⟨d, rfl⟩ := hF
      exact HP.out _ ((CO6.out.keep (keep_at d)).old.below TP6.out)
  · have RYV := hide' (And.intro ry hy)
    clear ry hy
    simp only [slS]
    go_wp2
    intro V1 p hx sz tp
    have KU := keep_piece HV.out BB.out p
    have CO1 := hide' (CO0.out.keep KU)
    have HX1 := hide' hx
    have TP1 := hide' (tp.trans TP0.out)
    have RY1 := hide' (row_new HX0.out HV.out p RYV.out.1 RYV.out.2)
    clear RYV
    clear KU p hx sz tp HV CV BB
    refine on_gp0 (n := 300) fun B hB => ?_
    have hc := atRel_c
    refine gp_seq (hc _) ?_
    refine Gp.stop (hc _) (fun w' hF => ?_)
    obtain ⟨d, rfl⟩ := hF
    refine ⟨d, rfl, ?_⟩
    clear hc hB B
    have CO2 := hide' (CO1.out.keep (keep_at d))
    have HX2 := hide' (HX1.out.at d)
    have TP2 := hide' (show (V1.at d).tape = w.tape from TP1.out)
    have RY2 := hide' (And.intro ((keep_at (X := Xs Shun) d).row RY1.out.1 RY1.out.2) RY1.out.2)
    obtain ⟨V2, hV⟩ : ∃ V2, V1.at d = V2 := ⟨_, rfl⟩
    rw [hV] at CO2 HX2 TP2 RY2
    rw [hV]
    clear hV d
    refine on_wp sand_mildZ (by k_ne) funcs3 inits3 (by decide +kernel) rfl HX2.out (fun v hv => ?_)
    have HV := hide' hv
    have CV := hide' (CO2.out.keep (keep_poi hv))
    clear hv
    have y0 := cell_of_row v _ 0 _ _ _ CV.out.gr
    have y1 := cell_of_row v _ 1 _ _ _ CV.out.gr
    simp at y0 y1
    have CT := hide' (toppleA_any (n : Int) xs ea en ec (sn : Int) cl ca cn cc os oa on oc v (CV.out.old.argE HE.out) (CV.out.old.arg HC.out) (CV.out.old.arg HO.out))
    go_wp2_with fail
    refine CT.out.mono ?_
    rintro e v' ⟨b, f5, hout⟩
    rcases hout with ⟨h5, hf5, _⟩ | ⟨Q', sn5, eQ, es5, G5, hT5, hout⟩
    case inl => exact (h5 (hf5.only GG.out.is)).elim
    obtain rfl : n = Q' := by omega
    obtain rfl : sn = sn5 := by omega
    obtain rfl : f5 = 0 := hT5.only HT.out
    rcases hout with ⟨h5, _⟩ | ⟨_, xa, xq, rfl, rx, hxa⟩
    case inl => exact (h5 rfl).elim
    have RXV := hide' (And.intro rx hxa)
    clear rx hxa
    simp only [slS]
    have BB := hide' b
    clear CT b y0 y1 eQ es5 G5 hT5
    go_wp2
    intro V3 p hx sz tp
    have KU := keep_piece HV.out BB.out p
    have CO3 := hide' (CO2.out.keep KU)
    have HX3 := hide' hx
    have TP3 := hide' (tp.trans TP2.out)
    have RY3 := hide' (And.intro (KU.row RY2.out.1 RY2.out.2) RY2.out.2)
    have RX3 := hide' (row_new HX2.out HV.out p RXV.out.1 RXV.out.2)
    clear RXV
    clear KU p hx sz tp HV CV BB
    refine on_gp0 (n := 300) fun B hB => ?_
    have hc := atRel_c
    refine gp_seq (hc _) ?_
    refine gp_region (hc _) ?_
    try simp only [List.size_toArray, List.length_cons, List.length_nil, Nat.reduceAdd, Nat.zero_add, List.range, List.range.loop]
    refine gp_opk (hc _) rfl rfl (by k_ne) (fun w hF K' hK => ?_)
    go_simp
    with_reducible refine hK _ (fun e' he => ?_) ?_
    · (clear hK; simp [go_sem] at he)
    clear hK K' hF
    clear w
    try walk_nrm
    refine gp_opk (hc _) rfl rfl (by k_ne) (fun w hF K' hK => ?_)
    go_simp
    with_reducible refine hK _ (fun e' he => ?_) ?_
    · (clear hK; simp [go_sem] at he)
    clear hK K' hF
    clear w
    try walk_nrm
    refine errnil_x rfl rfl (by k_ne) rfl rfl rfl ?_
    try walk_nrm
    refine gp_opk (hc _) rfl rfl (by k_ne) (fun w hF K' hK => ?_)
    go_simp
    with_reducible refine hK _ (fun e' he => ?_) ?_
    · (clear hK; simp [go_sem] at he)
    clear hK K' hF
    clear w
    try walk_nrm
    refine gp_done (hc _) ?_
    refine gp_seq (hc _) ?_
    refine Gp.stop (hc _) (fun w' hF => ?_)
    obtain ⟨d, rfl⟩ := hF
    refine ⟨d, rfl, ?_⟩
    clear hc hB B
    have CO4 := hide' (CO3.out.keep (keep_at d))
    have HX4 := hide' (HX3.out.at d)
    have TP4 := hide' (show (V3.at d).tape = w.tape from TP3.out)
    have RY4 := hide' (And.intro ((keep_at (X := Xs Shun) d).row RY3.out.1 RY3.out.2) RY3.out.2)
    have RX4 := hide' (And.intro ((keep_at (X := Xs Shun) d).row RX3.out.1 RX3.out.2) RX3.out.2)
    obtain ⟨V4, hV⟩ : ∃ V4, V3.at d = V4 := ⟨_, rfl⟩
    rw [hV] at CO4 HX4 TP4 RY4 RX4
    rw [hV]
    clear hV d
    refine on_wp sand_mildZ (by k_ne) funcs3 inits3 (by decide +kernel) rfl HX4.out (fun v hv => ?_)
    have HV := hide' hv
    have CV := hide' (CO4.out.keep (keep_poi hv))
    have RYv := hide' ((keep_poi hv).row RY4.out.1 RY4.out.2)
    have RXv := hide' ((keep_poi hv).row RX4.out.1 RX4.out.2)
    clear hv
    have CT := hide' (ints_bel ((List.range n).map (TpI n sn (btX xs) (chF cl) os os.length)) ((List.range n).map (TpI n sn (btX xs) (chF cl) os os.length)) (some ⟨xa, 0, none⟩) (some ⟨ya, 0, none⟩) n xq n yq v (arg_of_row RXv.out N10.out) (arg_of_row RYv.out N10.out) rfl)
    go_wp2_with fail
    refine CT.out.mono ?_
    rintro e v' ⟨rfl, b⟩
    have BB := hide' b
    clear CT b  RYv RXv
    go_wp2
    intro V5 p hx sz tp
    have KU := keep_piece HV.out BB.out p
    have CO5 := hide' (CO4.out.keep KU)
    have HX5 := hide' hx
    have TP5 := hide' (tp.trans TP4.out)
    have RY5 := hide' (And.intro (KU.row RY4.out.1 RY4.out.2) RY4.out.2)
    have RX5 := hide' (And.intro (KU.row RX4.out.1 RX4.out.2) RX4.out.2)
    clear KU p hx sz tp HV CV BB
    refine on_end (n := 300) fun B hB => ?_
    have hc := atRel_c
    refine gp_seq (hc _) ?_
    refine gp_region (hc _) ?_
    try simp only [List.size_toArray, List.length_cons, List.length_nil, Nat.reduceAdd, Nat.zero_add, List.range, List.range.loop]
    refine gp_opk (hc _) rfl rfl (by k_ne) (fun w hF K' hK => ?_)
    go_simp
    with_reducible refine hK _ (fun e' he => ?_) ?_
    · (clear hK; simp [go_sem] at he)
    clear hK K' hF
    clear w
    try walk_nrm
    refine gp_opk (hc _) rfl rfl (by k_ne) (fun w hF K' hK => ?_)
    go_simp
    with_reducible refine hK _ (fun e' he => ?_) ?_
    · (clear hK; simp [go_sem] at he)
    clear hK K' hF
    clear w
    try walk_nrm
    refine gp_opk (hc _) rfl rfl (by k_ne) (fun w hF K' hK => ?_)
    go_simp
    with_reducible refine hK _ (fun e' he => ?_) ?_
    · (clear hK; simp [go_sem] at he)
    clear hK K' hF
    clear w
    try walk_nrm
    refine gp_opk (hc _) rfl rfl (by k_ne) (fun w hF K' hK => ?_)
    go_simp
    with_reducible refine hK _ (fun e' he => ?_) ?_
    · (clear hK; simp [go_sem] at he)
    clear hK K' hF
    clear w
    try walk_nrm
    refine gp_opk (hc _) rfl rfl (by k_ne) (fun w hF K' hK => ?_)
    go_simp
    with_reducible refine hK _ (fun e' he => ?_) ?_
    · (clear hK; simp [go_sem] at he)
    clear hK K' hF
    clear w
    try walk_nrm
    refine gp_opk (hc _) rfl rfl (by k_ne) (fun w hF K' hK => ?_)
    go_simp
    with_reducible refine hK _ (fun e' he => ?_) ?_
    · (clear hK; simp [go_sem] at he)
    clear hK K' hF
    clear w
    try walk_nrm
    refine gp_opk (hc _) rfl rfl (by k_ne) (fun w hF K' hK => ?_)
    go_simp
    with_reducible refine hK _ (fun e' he => ?_) ?_
    · (clear hK; simp [go_sem] at he)
    clear hK K' hF
    clear w
    try walk_nrm
    refine gp_opk (hc _) rfl rfl (by k_ne) (fun w hF K' hK => ?_)
    go_simp
    with_reducible refine hK _ (fun e' he => ?_) ?_
    · (clear hK; simp [go_sem] at he)
    clear hK K' hF
    clear w
    try walk_nrm
    refine gp_opk (hc _) rfl rfl (by k_ne) (fun w hF K' hK => ?_)
    go_simp
    with_reducible refine hK _ (fun e' he => ?_) ?_
    · (clear hK; simp [go_sem] at he)
    clear hK K' hF
    clear w
    try walk_nrm
    refine gp_opk (hc _) rfl rfl (by k_ne) (fun w hF K' hK => ?_)
    go_simp
    with_reducible refine hK _ (fun e' he => ?_) ?_
    · (clear hK; simp [go_sem] at he)
    clear hK K' hF
    clear w
    try walk_nrm
    refine gp_opk (hc _) rfl rfl (by k_ne) (fun w hF K' hK => ?_)
    go_simp
    with_reducible refine hK _ (fun e' he => ?_) ?_
    · (clear hK; simp [go_sem] at he)
    clear hK K' hF
    clear w
    try walk_nrm
    refine gp_done (hc _) ?_
    refine gp_ret (hc _) ?_
    refine Gp.stop (hc _) (fun w' hF => ⟨rfl, .bool true, #[], ?_, fun e he => by simp at he, ?_⟩)
    · exact ends_here rfl rfl Tryd.func3 inits3 rfl rfl
    · obtain ⟨d, rfl⟩ := hF
      exact HP.out _ ((CO5.out.keep (keep_at d)).old.below TP5.out)
end Go.Proofs.YtpajdmhgonmgoaaDoor

namespace Go.Proofs.YtpajdmhgonmgoaaDoor
open Go.RowKit
set_option linter.unusedVariables false
open Go.Conc Go.ConcN Go.RowKit
set_option linter.unusedSimpArgs false
theorem chG_ex (P : Int) (xs : List EgT) (s : Int) (cs : List Int) : ∃ f, ChG P xs s cs f := by
  obtain ⟨f, hf⟩ : ∃ f, FaG P xs f := by
    by_cases q1 : P < 1 ∨ 10 < P
    · exact ⟨1, Or.inl ⟨q1, rfl⟩⟩
    · by_cases q2 : 40 < xs.length
      · exact ⟨4, Or.inr (Or.inl ⟨by omega, q2, rfl⟩)⟩
      · by_cases q3 : ∃ j, j < xs.length ∧ badE P (xs.getD j egz)
        · exact ⟨1, Or.inr (Or.inr (Or.inl ⟨by omega, by omega, q3, rfl⟩))⟩
        · by_cases q4 : allR P.toNat xs
          · exact ⟨0, Or.inr (Or.inr (Or.inr (Or.inl ⟨by omega, by omega, fun j hj hb => q3 ⟨j, hj, hb⟩, q4, rfl⟩)))⟩
          · exact ⟨3, Or.inr (Or.inr (Or.inr (Or.inr ⟨by omega, by omega, fun j hj hb => q3 ⟨j, hj, hb⟩, q4, rfl⟩)))⟩
  by_cases f0 : f = 0
  · subst f0
    by_cases q : 0 ≤ s ∧ s < P
    · have hs : SiG P xs s 0 := Or.inr (Or.inr ⟨hf, q, rfl⟩)
      by_cases k1 : (cs.length : Int) = P
      · by_cases k2 : ∃ k, k < cs.length ∧ badC s k (cs.getD k 0)
        · exact ⟨1, Or.inr ⟨hs, Or.inr (Or.inl ⟨k1, k2, rfl⟩)⟩⟩
        · exact ⟨0, Or.inr ⟨hs, Or.inr (Or.inr ⟨k1, fun k hk hb => k2 ⟨k, hk, hb⟩, rfl⟩)⟩⟩
      · exact ⟨3, Or.inr ⟨hs, Or.inl ⟨k1, rfl⟩⟩⟩
    · exact ⟨1, Or.inl ⟨by decide, Or.inr (Or.inl ⟨hf, q, rfl⟩)⟩⟩
  · exact ⟨f, Or.inl ⟨f0, Or.inl ⟨f0, hf⟩⟩⟩
set_option maxRecDepth 100000 in
set_option maxHeartbeats 12800000 in
/-- The law, whole. -/
theorem settles_all {Post : Value → World → Prop} {P s wk : Int} {en ec cn cc on oc : Nat} {xs : List EgT} {cl os : List Int} {ea ca oa : Option Addr} {w : World} (hE : ArgE w xs ea en ec) (hC : ArgP w cl ca cn cc) (hO : ArgP w os oa on oc) (hg : Handle w)
    (hpost : ∀ V : World, Below w.heap.size w V → Post (.bool true) V) :
    Reach Tryd.prog (G ((base 3).at ⟨#[.agg #[.int .i64 P, .slice ea en ec], .int .i64 s, .slice ca cn cc, .slice oa on oc, .int .i64 wk, undef, undef, undef, undef, undef, undef, undef, undef, undef, undef, undef, undef, undef, undef, undef, undef, undef, undef, undef, undef, undef, undef, undef, undef, undef, undef, undef, undef, undef, undef, undef, undef, undef, undef, undef, undef, undef, undef, undef, undef, undef, undef, undef, undef, undef, undef, undef, undef, undef, undef, undef, undef, undef, undef, undef, undef, undef, undef, undef, undef, undef, undef, undef, undef, undef, undef, undef, undef, undef, undef, undef, undef, undef, undef, undef, undef, undef, undef, undef, undef, undef, undef, undef, undef, undef, undef, undef, undef, undef, undef, undef, undef, undef, undef, undef, undef, undef, undef, undef, undef, undef, undef, undef, undef, undef, undef, undef, undef, undef, undef, undef, undef, undef, undef, undef, undef, undef, undef, undef, undef, undef, undef, undef, undef, undef, undef, undef, undef, undef, undef, undef, undef, undef, undef, undef, undef, undef, undef, undef, undef, undef, undef, undef, undef, undef, undef, undef, undef, undef], []⟩ [.code (bodyOf Tryd.f3)]) []) w (LawEnd Tryd.prog Post) := by
  have hH : ∀ V : World, Below w.heap.size w V → Handle V := fun V h => hg.below h
  obtain ⟨f, hf⟩ := chG_ex P xs s cl
  by_cases f0 : f = 0
  · subst f0
    by_cases hw : 1 ≤ wk ∧ wk ≤ 8
    · obtain ⟨n, sn, rfl, rfl, GC⟩ := good_of hf
      obtain ⟨nw, rfl⟩ := Int.eq_ofNat_of_zero_le (show 0 ≤ wk by omega)
      refine settles_front hE hC hH GC hw.1 hw.2 ?_
      intro Shun pa fa fq ft pb g1 g2 u V x6 x7 x8 x9 x13 x21 x22 x23 x24 x25 x26 x27 x28 x29 x30 x31 x32 x33 x34 x35 x36 x37 x38 x39 x40 x41 x42 x43 x44 x45 x46 x47 x48 x49 x50 x51 x52 x53 x54 x55 x56 x57 x58 x59 x60 x61 x62 x63 x64 x65 x66 x67 x68 x69 x70 x71 x72 x73 x74 x75 x76 x77 x78 x79 x80 x81 x82 x83 x84 x85 x86 x87 x88 x89 x90 x91 x92 x93 x94 x95 x96 x97 x98 x99 x100 x101 x102 x103 x104 x105 x106 x107 x108 x109 x110 x111 x112 x113 x114 x115 x116 x117 x118 x119 x120 x121 x122 x123 x124 x125 x126 x127 x128 x129 x130 x131 x132 x133 x134 x135 x136 x137 x138 x139 x140 x141 x142 x143 x144 x145 x146 x147 x148 x149 x150 x151 x152 x153 CO hx tp
      refine settles_mid hE hC GC CO hx tp ?_ _ _ _ _ _ _ _ _ _ _ _ _ _ _ _ _ _ _ _ _ _ _ _ _ _ _ _ _ _ _ _ _ _ _ _ _ _ _ _ _ _ _ _ _ _ _ _ _ _ _ _ _ _ _ _ _ _ _ _ _ _ _ _ _ _ _ _ _ _ _ _ _ _ _ _ _ _ _ _ _ _ _ _ _ _ _ _ _ _ _ _ _ _ _ _ _ _ _ _ _ _ _ _ _ _ _ _ _ _ _ _ _ _ _ _ _ _ _ _ _ _ _ _ _ _ _ _ _ _ _ _ _ _ _ _ _ _ _
      intro V2 y6 y7 y8 y9 y12 y13 y14 y15 y16 y17 y18 y19 y20 y24 y25 y26 y27 y28 y29 y30 y31 y32 y33 y34 y35 y36 y37 y38 y39 y40 y41 y42 y43 y44 y45 y46 y47 y48 y49 y50 y51 y52 y53 y54 y55 y56 y57 y58 y59 y60 y61 y62 y63 y64 y65 y66 y67 y68 y69 y70 y71 y72 y73 y74 y75 y76 y77 y78 y79 y80 y81 y82 y83 y84 y85 y86 y87 y88 y89 y90 y91 y92 y93 y94 y95 y96 y97 y98 y99 y100 y101 y102 y103 y104 y105 y106 y107 y108 y109 y110 y111 y112 y113 y114 y115 y116 y117 y118 y119 y120 y121 y122 y123 y124 y125 y126 y127 y128 y129 y130 y131 y132 y133 y134 y135 y136 y137 y138 y139 y140 y141 y142 y143 y144 y145 y146 y147 y148 y149 y150 y151 y152 y153 CO2 hx2 tp2
      exact settles_end hE hC GC hO hg hpost CO2 hx2 tp2 _ _ _ _ _ _ _ _ _ _ _ _ _ _ _ _ _ _ _ _ _ _ _ _ _ _ _ _ _ _ _ _ _ _ _ _ _ _ _ _ _ _ _ _ _ _ _ _ _ _ _ _ _ _ _ _ _ _ _ _ _ _ _ _ _ _ _ _ _ _ _ _ _ _ _ _ _ _ _ _ _ _ _ _ _ _ _ _ _ _ _ _ _ _ _ _ _ _ _ _ _ _ _ _ _ _ _ _ _ _ _ _ _ _ _ _ _ _ _ _ _ _ _ _ _ _ _ _ _ _ _ _ _ _ _ _ _ _ _ _ _ _ _
    · exact settles_few hE hC hO hH hpost hf (by omega)
  · exact settles_no hE hC hO hH hpost f0 hf
end Go.Proofs.YtpajdmhgonmgoaaDoor

namespace Go.Proofs.YtpajdmhgonmgoaaDoor
open Go.RowKit
set_option linter.unusedVariables false
open Go.Conc Go.ConcN Go.RowKit
theorem pastS_nil (B : Nat) : PastS B #[] := ⟨past_nil.mono (Nat.zero_le B), fun j _ => rfl, fun op h => by simp at h⟩
/-- From a start at which nothing has been done. -/
theorem run_of_reach {P : Program} {g : Goroutine} {w : World} {Post : Value → World → Prop} (h : Reach P g w (LawEnd P Post)) :
    ∃ M last o w' t', runNT P (M + 1) (solo g w) #[] = (.ended o w', t') ∧ runN P M (solo g w) = .next last ∧ step P last = .ended o w' ∧ Go.Conc.Good P Post last o w' t' := by
  obtain ⟨N, m', tr', h1, N2, last, o, w', t', h2, h3, h4, h5⟩ := h #[] (pastS_nil _)
  have e1 : runN P N (solo g w) = .next m' := by rw [← runNT_fst P N (solo g w) #[], h1]
  refine ⟨N + N2, last, o, w', t', ?_, ?_, h4, h5⟩
  · rw [Nat.add_assoc, runNT_then h1]; exact h2
  · rw [runN_add, e1]; exact h3
/-- From the call that enters it. -/
theorem run_entered {P : Program} {f : FuncId} {fn : Func} {args : Array Value} {w : World} {Post : Value → World → Prop} {c : Code} {a : Act} (hf : P.funcs[f]? = some fn) (hb : fn.body = some c)
    (ha : ({ tmps := args ++ Array.replicate (fn.ntmps - args.size) undef, defers := [] } : Act) = a) (h : Reach P (G ((base f).at a [.code c]) []) w (LawEnd P Post)) :
    ∃ M last o w' t', runNT P (M + 1) (solo (G (Frame.enter P f args .normal) []) w) #[] = (.ended o w', t') ∧ runN P M (solo (G (Frame.enter P f args .normal) []) w) = .next last ∧ step P last = .ended o w' ∧ Go.Conc.Good P Post last o w' t' := by
  rw [enter_at args hf hb, ha]
  exact run_of_reach h
end Go.Proofs.YtpajdmhgonmgoaaDoor

namespace Go.Proofs.YtpajdmhgonmgoaaDoor
open Go.ChangeShapes Go.WideShapes Go.ChangeAt Go.RowKit
open Go.ChangeMaps (setBlock shut_map_nil open_string shut_string keptBut_setBlock frozen?_setBlock heap_setBlock_same)
set_option linter.unusedVariables false

theorem laidOutP : laidOutB Tryd.prog = true := by kernel_rfl
theorem ownP : ownKnob Tryd.prog.godebug = none := by kernel_rfl
theorem errorTypeAtP : Tryd.prog.globalNamed "errors.errorType" = some 0 := by kernel_rfl
theorem rtypeAtP : (Tryd.prog.cutTypes.find? (·.1 == "internal/reflectlite.rtype")).map (·.2) = some 134 := by kernel_rfl
theorem oneRowP : ((List.range 182).filter fun t => Tryd.prog.rowNamed t [101, 114, 114, 111, 114]) = [28] := by kernel_rfl
theorem typesSizeP : Tryd.prog.types.size = 182 := by kernel_rfl

/-- What the condition on the listed variable gives a walk: its one cell. -/
theorem handle_laid {W : World} (h : handlesMet Tryd.prog [("errors.errorType", Rows.laid_errors_errorType)] W) : Handle W := by
  obtain ⟨name, u, ty, e1, e2, e3, e4, e5⟩ := h _ (List.mem_singleton.2 rfl)
  have en : name = [101, 114, 114, 111, 114] := (Option.some.inj e1).symm
  subst en
  obtain rfl := Option.some.inj (rtypeAtP.symm.trans e2)
  have hm : ty ∈ (List.range 182).filter fun t => Tryd.prog.rowNamed t [101, 114, 114, 111, 114] := List.mem_filter.2 ⟨List.mem_range.2 (by rw [← typesSizeP]; exact e3), e4⟩
  rw [oneRowP] at hm
  obtain rfl := List.mem_singleton.1 hm
  have hh : typeHandle Tryd.prog 28 = .pointer (some ⟨1, 28, none⟩) := by kernel_rfl
  rw [hh] at e5
  simpa [Handle] using World.var?_cell errorTypeAtP e5 0

/-- The variable's cell laid. -/
def layBlockP (o : Obj) : Obj := match o with
  | .cells _ t frozen => .cells #[.iface 134 (.agg #[.pointer (some ⟨1, 28, none⟩)])] t frozen
  | o => o
def layWorldP (w : World) : World := { w with heap := w.heap.modify 0 layBlockP }

end Go.Proofs.YtpajdmhgonmgoaaDoor

