/-
  What the last text of this claim leans on, part 47: Kfj, Kfk, Kfl, Kfm, Kf9.
-/
import Derived.Test.YtpajdmhgonmgoaaDoorYs46
import Derived.Test.YtpajdmhgonmgoaaDoorYs40
import Derived.Test.YtpajdmhgonmgoaaDoorYs33
import Derived.LoneHanded
import Derived.Listen
namespace Go.Proofs.YtpajdmhgonmgoaaDoor
open Go.RowKit
set_option linter.unusedVariables false
open Go.Conc Go.ConcN Go.RowKit
set_option linter.unusedSimpArgs false
theorem nw_is (wk : Int) : ∃ nw : Nat, 1 ≤ nw ∧ nw ≤ 8 ∧ IntKind.wrap .i64 (1 + (IntKind.wrap .i64 (wk.tmod 8 + 8)).tmod 8) = (nw : Int) := by
  have h1 : -8 < wk.tmod 8 ∧ wk.tmod 8 < 8 := by
    constructor
    · have := Int.lt_tmod_of_pos wk (show (0 : Int) < 8 by omega)
      omega
    · exact Int.tmod_lt_of_pos wk (by omega)
  obtain ⟨r, hr⟩ : ∃ r, wk.tmod 8 = r := ⟨_, rfl⟩
  rw [hr] at h1 ⊢
  rw [wrap_fit (x := r + 8) ⟨by omega, by omega⟩, Int.tmod_eq_emod_of_nonneg (by omega)]
  refine ⟨(1 + (r + 8) % 8).toNat, by omega, by omega, ?_⟩
  rw [wrap_fit ⟨by omega, by omega⟩]
  omega
theorem reach_then {P : Program} {g : Goroutine} {w : World} {T T' : Machine → Trace → Prop} (h : Reach P g w T) (k : ∀ m t, T m t → ∃ N m' t', runNT P N m t = (.next m', t') ∧ T' m' t') : Reach P g w T' := fun tr hp => by
  obtain ⟨N, m, t, h1, h2⟩ := h tr hp
  obtain ⟨N2, m2, t2, h3, h4⟩ := k m t h2
  exact ⟨N + N2, m2, t2, by rw [runNT_then h1]; exact h3, h4⟩
theorem crowd_reachE {n sn en ec cn cc nw : Nat} {xs : List EgT} {cl : List Int} {ea ca : Option Addr} {w : World} {c : Code} (hcd : (bodyOf Tryd.f10) = c) (GC : GoodC n sn xs cl) (hE : ArgE w xs ea en ec) (hP : ArgP w cl ca cn cc) (h1 : 1 ≤ nw) (h2 : nw ≤ 8) {b₀ : Frame} {a₀ : Act} {ops₀ : Array Oper} {i₀ : Nat} {rest₀ : List Nat} {k₀ : List Item} {cs : List Frame} :
    Reach Tryd.prog (G ((base 10).at ⟨#[.agg #[.int .i64 (n : Int), .slice ea en ec], .int .i64 (sn : Int), .slice ca cn cc, .int .i64 (nw : Int), undef, undef, undef, undef, undef, undef, undef, undef, undef, undef, undef, undef, undef, undef, undef, undef, undef, undef, undef, undef, undef, undef, undef, undef, undef, undef, undef, undef, undef, undef, undef, undef, undef], []⟩ [.code c]) (b₀.at a₀ (.inRegion ops₀ (i₀ :: rest₀) :: k₀) :: cs)) w (CrowdEnd n sn (btX xs) (chF cl) b₀ a₀ ops₀ i₀ rest₀ k₀ cs w) := by
  subst hcd
  exact crowd_reach GC hE hP h1 h2
set_option maxRecDepth 100000 in
set_option maxHeartbeats 12800000 in
theorem law_fifth {Post : Value → World → Prop} {P s wk : Int} {en ec cn cc on oc pa n sn fa fq ta nb nq tb pb fb qb tu : Nat} {xs : List EgT} {cl : List Int} {ea ca oa : Option Addr} {w W : World} {gx : Nat} {ua v ub : Nat → Int} (hE : ArgE w xs ea en ec) (hC : ArgP w cl ca cn cc) (SC : SetC w P s xs cl gx ea en ec pa n sn fa fq ta ua nb tb v pb fb qb tu ub W)
    (hpost : ∀ V : World, Below w.heap.size w V → Post (.bool true) V) (x6 x7 x8 x9 x11 x12 x13 x18 x19 x20 x23 x24 x25 x26 x27 x28 x29 x30 x31 x32 x33 x34 x35 x36 x37 x38 x39 x40 x41 x42 x43 x44 x45 x46 x47 x48 x49 x50 x51 x52 x53 x54 x55 x56 x57 x58 x59 x60 x61 x62 x63 x64 x65 x66 x67 x68 x69 x70 x71 x72 x73 x74 x75 x76 x77 x78 x79 x80 x81 x82 x83 x84 x85 x86 x87 x88 x89 x90 x91 x92 x93 x94 x95 x96 x97 x98 x99 x100 x101 x102 x103 x104 x105 x106 x107 x108 x109 x110 x111 x112 x113 x114 x115 x116 x117 x118 x119 x120 x121 x122 x123 x124 x125 x126 x127 x128 x129 x130 x131 x132 x133 x134 x135 x136 x137 x138 x139 x140 x141 x142 x143 x144 x145 x146 x147 x148 x149 x150 x151 x152 x153 x154 x155 x156 x157 x158 x159 x160 x161 x162 x163 x164 x165 x166 x167 x168 x169 x170 x171 x172 x173 x174 x175 x176 x177 x178 x179 x180 x181 x182 x183 x184 x185 x186 x187 x188 x189 x190 x191 x192 x193 : Value) :
    Reach Tryd.prog (G ((base 4).at ⟨#[(.agg #[.int .i64 P, .slice ea en ec]), (.int .i64 s), (.slice ca cn cc), (.slice oa on oc), (.int .i64 wk), (.pointer (some ⟨gx, 0, none⟩)), x6, x7, x8, x9, (.bool false), x11, x12, x13, (.pointer (some ⟨pa, 0, none⟩)), .nilIface, (slS nb n nq), (.slice (some ⟨tb, 0, none⟩) n n), x18, x19, x20, (.pointer (some ⟨pb, 0, none⟩)), .nilIface, x23, x24, x25, x26, x27, x28, x29, x30, x31, x32, x33, x34, x35, x36, x37, x38, x39, x40, x41, x42, x43, x44, x45, x46, x47, x48, x49, x50, x51, x52, x53, x54, x55, x56, x57, x58, x59, x60, x61, x62, x63, x64, x65, x66, x67, x68, x69, x70, x71, x72, x73, x74, x75, x76, x77, x78, x79, x80, x81, x82, x83, x84, x85, x86, x87, x88, x89, x90, x91, x92, x93, x94, x95, x96, x97, x98, x99, x100, x101, x102, x103, x104, x105, x106, x107, x108, x109, x110, x111, x112, x113, x114, x115, x116, x117, x118, x119, x120, x121, x122, x123, x124, x125, x126, x127, x128, x129, x130, x131, x132, x133, x134, x135, x136, x137, x138, x139, x140, x141, x142, x143, x144, x145, x146, x147, x148, x149, x150, x151, x152, x153, x154, x155, x156, x157, x158, x159, x160, x161, x162, x163, x164, x165, x166, x167, x168, x169, x170, x171, x172, x173, x174, x175, x176, x177, x178, x179, x180, x181, x182, x183, x184, x185, x186, x187, x188, x189, x190, x191, x192, x193], []⟩ [.code (cR (cR (cR (cR (cR (cR (cR (cR (cR (cR (cR (cR (bodyOf Tryd.f4)))))))))))))]) []) W (LawEnd Tryd.prog Post) := by
  obtain rfl := SC.b.a.eP
  obtain rfl := SC.b.a.es
  have HS := hide' SC
  have HP := hide' hpost
  have HE := hide' hE
  have HC := hide' hC
  have n10 := SC.b.a.ok.ok.p2
  have rt : RowAt W tb n v := ⟨_, SC.b.tm, fun k hk => arrS_get _ hk⟩
  have PP := SC.b.a.ok.pile
  have bn : ∀ k, k < n → 0 ≤ ua k ∧ ua k ≤ 1000000 := fun k hk => by
    have h1 := SC.b.a.pl.pos k hk
    have h2 := SC.b.a.pl.few PP.gr PP.c0p PP.sum k hk
    have h3 : ((n - 1 : Nat) : Int) ≤ 9 := by omega
    omega
  have RT := hide' rt
  have BN := hide' bn
  clear hpost hE hC SC rt PP bn
  simp only [cR, bodyOf, Tryd.f4, Option.getD_some]
  refine reach_nrm sand_mild (by k_ne) funcs4 inits4 (by decide +kernel) rfl ?_
  refine wp_code (c := (cL (cR (cR (cR (cR (cR (cR (cR (cR (cR (cR (cR (cR (bodyOf Tryd.f4))))))))))))))) ?_ (loop2_wp n10 HS.out.b.a.gr HS.out.b.a.pile HS.out.pile HS.out.b.a.often HS.out.often RT.out HS.out.eq BN.out _ _ _ _ _ _ _ _ _ _ _ _ _ _ _ _ _ _ _ _ _ _ _ _ _ _ _ _ _ _ _ _ _ _ _ _ _ _ _ _ _ _ _ _ _ _ _ _ _ _ _ _ _ _ _ _ _ _ _ _ _ _ _ _ _ _ _ _ _ _ _ _ _ _ _ _ _ _ _ _ _ _ _ _ _ _ _ _ _ _ _ _ _ _ _ _ _ _ _ _ _ _ _ _ _ _ _ _ _ _ _ _ _ _ _ _ _ _ _ _ _ _ _ _ _ _ _ _ _ _ _ _ _ _ _ _ _ _ _ _ _ _ _ _ _ _ _ _ _ _ _ _ _ _ _ _ _ _ _ _ _ _ _ _ _ _ _ _ _ _ _ _ _ _ _ _ _ _ _ _ _ _ _ _ _ _ _ _ _ _ ?_)
  · simp only [cL, cR, bodyOf, Tryd.f4, Option.getD_some]
  intro z10 z25 z126 z127 z128 z129 z130 z131 z132 z133 z134 z135 z136 z137 z138 z139 z140 z141 z142 z143 z144 z145 z146 z147 z148 z149 z150 z151 z152 z153 z154 z155 z156 z157 z158 z159 z160 z161 z162 z163 V hV
  show Reach _ _ _ _
  have VG := (hV.block gx (ltS_of_block HS.out.b.a.gr)).trans HS.out.b.a.gr
  have y0 := cell_of_row V _ 0 _ _ _ VG
  have y1 := cell_of_row V _ 1 _ _ _ VG
  simp at y0 y1
  have lv := ltS_of_block VG
  have HV := hide' hV
  clear VG hV RT BN
  refine Reach.ctl rfl stepG_seq ?_
  refine Reach.ctl rfl stepG_region ?_
  try simp only [List.size_toArray, List.length_cons, List.length_nil, Nat.reduceAdd, Nat.zero_add, List.range, List.range.loop]
  refine reach_opk rfl rfl (by k_ne) (fun K hK => ?_)
  go_simp
  with_reducible refine hK _ (fun e' he => ?_) ?_
  · clear hK
    simp [go_sem, y0, y1] at he
    rcases he with rfl | rfl
    · exact ⟨lv, fun m h => by cases h⟩
    · exact ⟨lv, fun m h => by cases h⟩
  clear hK K
  try walk_nrm
  iterate 3
    refine reach_opk rfl rfl (by k_ne) (fun K hK => ?_)
    go_simp
    with_reducible refine hK _ (fun e' he => ?_) ?_
    · (clear hK; simp [go_sem] at he)
    clear hK K
    try walk_nrm
  iterate 4
    refine reach_opk rfl rfl (by k_ne) (fun K hK => ?_)
    go_simp
    with_reducible refine hK _ (fun e' he => ?_) ?_
    · (clear hK; simp [go_sem] at he)
    clear hK K
    try walk_nrm
  obtain ⟨nw, w1, w8, hnw⟩ := nw_is wk
  rw [hnw]
  clear hnw y0 y1
  refine reach_call rfl rfl (by k_ne) rfl Tryd.func10 rfl rfl ?_
  walk_nrmf Tryd.f10
  have SV := HS.out.b.a
  have BV : Below w.heap.size w V := SV.bl.trans (HV.out.mono SV.bl.size)
  refine reach_then (crowd_reachE ?_ SV.ok (HE.out.below BV) (HC.out.below BV) w1 w8) ?_
  · simp only [bodyOf, Tryd.f10, Option.getD_some]
  rintro m t ⟨Shun, B, g1, g2, w', u, hb, pl, st, sB, r1, r2, old, sh, f1, f2, sz, shl, oso⟩
  have s1 := ltS_of_block HS.out.b.a.pile
  have s2 := ltS_of_block HS.out.pile
  have s3 := row_lt HS.out.b.a.chips
  have s4 := row_lt HS.out.chips
  have sV := HV.out.size
  have oV : ∀ k, k < W.heap.size → w'.heap[k]? = W.heap[k]? := fun k hk => (old k (by omega)).trans (HV.out.block k hk)
  have key := fun hG => bes_ends (Post := Post) (n := 2000) (F := AtRel w') hG (atRel_refl w') (hb.mono (B' := B + 1) (by omega))
  have lt := law_tail (Shun := Shun) (B := B + 1) (pa := pa) (pb := pb) (ga := fa) (gb := fb) (qa := fq) (qb := qb) (gd := g1) (n := n) (f := chS n sn (btX xs) (chF cl) ua) (w0 := w') (td := slV g2 n) (td1 := some ⟨g2, 0, none⟩) (td2 := n) (td3 := n) (Post := Post) n10 ((oV pa s1).trans HS.out.b.a.pile) ((oV pb s2).trans HS.out.pile) (row_on HS.out.b.a.chips (oV fa s3)) (row_on HS.out.chips (oV fb s4))
    ⟨_, r1, fun k hk => by rw [arrS_get _ hk]; exact congrArg (fun z => some (Value.int .i64 z)) (chS.congU (fun j hj => pl.same st SV.pl SV.st j hj) hk)⟩ rfl
    (fun a ha hs => by have := (sh a hs).1; omega) (fun a ha hs => by have := (sh a hs).1; omega) (fun a ha hs => by have := (sh a hs).1; omega) (fun a ha hs => by have := (sh a hs).1; omega) (fun a ha hs => (sh a hs).2.1 ha) (fun a ha hs => by have := shl a hs; omega) (by omega)
    (fun w2 h2 => HP.out w2 (BV.trans (Below.trans ⟨oso.1, oso.2.1, oso.2.2, sz, fun k hk => old k (Nat.lt_of_lt_of_le hk BV.size)⟩ (h2.mono (by have := BV.size; omega)))))
  simp only [cO, cL, cR, bodyOf, Tryd.f4, Option.getD_some] at lt
  obtain ⟨N, last, o, wf, t', h1, h2, h3, h4⟩ := key (lt _ _ _ _ _ _ _ _ _ _ _ _ _ _ _ _ _ _ _ _ _ _ _ _ _ _ _ _ _ _ _ _ _ _ _ _ _ _ _ _ _ _ _ _ _ _ _ _ _ _ _ _ _ _ _ _ _ _ _ _ _ _ _ _ _ _ _ _ _ _ _ _ _ _ _ _ _ _ _ _ _ _ _ _ _ _ _ _ _ _ _ _ _ _ _ _ _ _ _ _ _ _ _ _ _ _ _ _ _ _ _ _ _ _ _ _ _ _ _ _ _ _ _ _ _ _ _ _ _ _ _ _ _ _ _ _ _ _ _ _ _ _ _ _ _ _ _ _ _ _ _ _ _ _ _ _ _ _ _ _ _ _ _ _ _ _ _ _ _ _ _ _ _ _ _ _ _ _ _ _ _ _ _ _ _ _ _ _ _ _ _ _)
  exact ⟨0, m, t, rfl, N, last, o, wf, t', h1, h2, h3, h4⟩
end Go.Proofs.YtpajdmhgonmgoaaDoor

namespace Go.Proofs.YtpajdmhgonmgoaaDoor
open Go.RowKit
set_option linter.unusedVariables false
open Go.Conc Go.ConcN Go.RowKit
set_option linter.unusedSimpArgs false
set_option maxRecDepth 100000 in
set_option maxHeartbeats 12800000 in
theorem law_but {Post : Value → World → Prop} {P s wk : Int} {en ec cn cc on oc : Nat} {xs : List EgT} {cl os : List Int} {ea ca oa : Option Addr} {w : World} (hE : ArgE w xs ea en ec) (hC : ArgP w cl ca cn cc) (hO : ArgP w os oa on oc) (hoc : on ≤ oc) (hcap : oc ≤ 9223372036854775807)
    (hpost : ∀ V : World, Below w.heap.size w V → Post (.bool true) V)
    (hErr : ∀ (gx pa n sn fa fq ta nb nq tb : Nat) (ua v : Nat → Int) (x6 x7 x8 x9 x11 x12 x13 x18 x19 x20 x21 x23 x24 x25 x26 x27 x28 x29 x30 x31 x32 x33 x34 x35 x36 x37 x38 x39 x40 x41 x42 x43 x44 x45 x46 x47 x48 x49 x50 x51 x52 x53 x54 x55 x56 x57 x58 x59 x60 x61 x62 x63 x64 x65 x66 x67 x68 x69 x70 x71 x72 x73 x74 x75 x76 x77 x78 x79 x80 x81 x82 x83 x84 x85 x86 x87 x88 x89 x90 x91 x92 x93 x94 x95 x96 x97 x98 x99 x100 x101 x102 x103 x104 x105 x106 x107 x108 x109 x110 x111 x112 x113 x114 x115 x116 x117 x118 x119 x120 x121 x122 x123 x124 x125 x126 x127 x128 x129 x130 x131 x132 x133 x134 x135 x136 x137 x138 x139 x140 x141 x142 x143 x144 x145 x146 x147 x148 x149 x150 x151 x152 x153 x154 x155 x156 x157 x158 x159 x160 x161 x162 x163 x164 x165 x166 x167 x168 x169 x170 x171 x172 x173 x174 x175 x176 x177 x178 x179 x180 x181 x182 x183 x184 x185 x186 x187 x188 x189 x190 x191 x192 x193 : Value) (V : World) (f : Nat) (F : Nat → Int), ¬ f = 0 → ChG (n : Int) xs (sn : Int) ((List.range n).map F) f → RowAt V nb n F → SetB w P s xs cl gx ea en ec pa n sn fa fq ta ua nb tb v V → Reach Tryd.prog (G ((base 4).at ⟨#[(.agg #[.int .i64 P, .slice ea en ec]), (.int .i64 s), (.slice ca cn cc), (.slice oa on oc), (.int .i64 wk), (.pointer (some ⟨gx, 0, none⟩)), x6, x7, x8, x9, (.bool false), x11, x12, x13, (.pointer (some ⟨pa, 0, none⟩)), .nilIface, (slS nb n nq), (.slice (some ⟨tb, 0, none⟩) n n), x18, x19, x20, x21, (errOf f), x23, x24, x25, x26, x27, x28, x29, x30, x31, x32, x33, x34, x35, x36, x37, x38, x39, x40, x41, x42, x43, x44, x45, x46, x47, x48, x49, x50, x51, x52, x53, x54, x55, x56, x57, x58, x59, x60, x61, x62, x63, x64, x65, x66, x67, x68, x69, x70, x71, x72, x73, x74, x75, x76, x77, x78, x79, x80, x81, x82, x83, x84, x85, x86, x87, x88, x89, x90, x91, x92, x93, x94, x95, x96, x97, x98, x99, x100, x101, x102, x103, x104, x105, x106, x107, x108, x109, x110, x111, x112, x113, x114, x115, x116, x117, x118, x119, x120, x121, x122, x123, x124, x125, x126, x127, x128, x129, x130, x131, x132, x133, x134, x135, x136, x137, x138, x139, x140, x141, x142, x143, x144, x145, x146, x147, x148, x149, x150, x151, x152, x153, x154, x155, x156, x157, x158, x159, x160, x161, x162, x163, x164, x165, x166, x167, x168, x169, x170, x171, x172, x173, x174, x175, x176, x177, x178, x179, x180, x181, x182, x183, x184, x185, x186, x187, x188, x189, x190, x191, x192, x193], []⟩ [.code (cR (cR (cR (cR (cR (cR (cR (cR (cR (cR (cR (bodyOf Tryd.f4))))))))))))]) []) V (LawEnd Tryd.prog Post)) :
    Reach Tryd.prog (G ((base 4).at ⟨#[.agg #[.int .i64 P, .slice ea en ec], .int .i64 s, .slice ca cn cc, .slice oa on oc, .int .i64 wk, undef, undef, undef, undef, undef, undef, undef, undef, undef, undef, undef, undef, undef, undef, undef, undef, undef, undef, undef, undef, undef, undef, undef, undef, undef, undef, undef, undef, undef, undef, undef, undef, undef, undef, undef, undef, undef, undef, undef, undef, undef, undef, undef, undef, undef, undef, undef, undef, undef, undef, undef, undef, undef, undef, undef, undef, undef, undef, undef, undef, undef, undef, undef, undef, undef, undef, undef, undef, undef, undef, undef, undef, undef, undef, undef, undef, undef, undef, undef, undef, undef, undef, undef, undef, undef, undef, undef, undef, undef, undef, undef, undef, undef, undef, undef, undef, undef, undef, undef, undef, undef, undef, undef, undef, undef, undef, undef, undef, undef, undef, undef, undef, undef, undef, undef, undef, undef, undef, undef, undef, undef, undef, undef, undef, undef, undef, undef, undef, undef, undef, undef, undef, undef, undef, undef, undef, undef, undef, undef, undef, undef, undef, undef, undef, undef, undef, undef, undef, undef, undef, undef, undef, undef, undef, undef, undef, undef, undef, undef, undef, undef, undef, undef, undef, undef, undef, undef, undef, undef, undef, undef, undef, undef, undef, undef, undef, undef, undef, undef, undef, undef, undef, undef, undef, undef, undef, undef, undef, undef], []⟩ [.code (bodyOf Tryd.f4)]) []) w (LawEnd Tryd.prog Post) := by
  refine law_first hE hC hO hoc hcap ?_
  intro x6 x7 x8 x9 x11 x12 x13 x14 x15 x16 x17 x18 x19 x20 x21 x22 x23 x24 x25 x26 x27 x28 x29 x30 x31 x32 x33 x34 x35 x36 x37 x38 x39 x40 x41 x42 x43 x44 x45 x46 x47 x48 x49 x50 x51 x52 x53 x54 x55 x56 x57 x58 x59 x60 x61 x62 x63 x64 x65 x66 x67 x68 x69 x70 x71 x72 x73 x74 x75 x76 x77 x78 x79 x80 x81 x82 x83 x84 x85 x86 x87 x88 x89 x90 x91 x92 x93 x94 x95 x96 x97 x98 x99 x100 x101 x102 x103 x104 x105 x106 x107 x108 x109 x110 x111 x112 x113 x114 x115 x116 x117 x118 x119 x120 x121 x122 x123 x124 x125 x126 x127 x128 x129 x130 x131 x132 x133 x134 x135 x136 x137 x138 x139 x140 x141 x142 x143 x144 x145 x146 x147 x148 x149 x150 x151 x152 x153 x154 x155 x156 x157 x158 x159 x160 x161 x162 x163 x164 x165 x166 x167 x168 x169 x170 x171 x172 x173 x174 x175 x176 x177 x178 x179 x180 x181 x182 x183 x184 x185 x186 x187 x188 x189 x190 x191 x192 x193 V1 hB1 hs1 hg1
  refine law_second hE hC hB1 rfl hg1 (fun V h => hpost V h) ?_ x6 x7 x8 x9 x11 x12 x13 x14 x15 x16 x17 x18 x19 x20 x21 x22 x23 x24 x25 x26 x27 x28 x29 x30 x31 x32 x33 x34 x35 x36 x37 x38 x39 x40 x41 x42 x43 x44 x45 x46 x47 x48 x49 x50 x51 x52 x53 x54 x55 x56 x57 x58 x59 x60 x61 x62 x63 x64 x65 x66 x67 x68 x69 x70 x71 x72 x73 x74 x75 x76 x77 x78 x79 x80 x81 x82 x83 x84 x85 x86 x87 x88 x89 x90 x91 x92 x93 x94 x95 x96 x97 x98 x99 x100 x101 x102 x103 x104 x105 x106 x107 x108 x109 x110 x111 x112 x113 x114 x115 x116 x117 x118 x119 x120 x121 x122 x123 x124 x125 x126 x127 x128 x129 x130 x131 x132 x133 x134 x135 x136 x137 x138 x139 x140 x141 x142 x143 x144 x145 x146 x147 x148 x149 x150 x151 x152 x153 x154 x155 x156 x157 x158 x159 x160 x161 x162 x163 x164 x165 x166 x167 x168 x169 x170 x171 x172 x173 x174 x175 x176 x177 x178 x179 x180 x181 x182 x183 x184 x185 x186 x187 x188 x189 x190 x191 x192 x193
  intro y6 y7 y8 y9 y11 y12 y13 y16 y17 y18 y19 y20 y21 y22 y23 y24 y25 y26 y27 y28 y29 y30 y31 y32 y33 y34 y35 y36 y37 y38 y39 y40 y41 y42 y43 y44 y45 y46 y47 y48 y49 y50 y51 y52 y53 y54 y55 y56 y57 y58 y59 y60 y61 y62 y63 y64 y65 y66 y67 y68 y69 y70 y71 y72 y73 y74 y75 y76 y77 y78 y79 y80 y81 y82 y83 y84 y85 y86 y87 y88 y89 y90 y91 y92 y93 y94 y95 y96 y97 y98 y99 y100 y101 y102 y103 y104 y105 y106 y107 y108 y109 y110 y111 y112 y113 y114 y115 y116 y117 y118 y119 y120 y121 y122 y123 y124 y125 y126 y127 y128 y129 y130 y131 y132 y133 y134 y135 y136 y137 y138 y139 y140 y141 y142 y143 y144 y145 y146 y147 y148 y149 y150 y151 y152 y153 y154 y155 y156 y157 y158 y159 y160 y161 y162 y163 y164 y165 y166 y167 y168 y169 y170 y171 y172 y173 y174 y175 y176 y177 y178 y179 y180 y181 y182 y183 y184 y185 y186 y187 y188 y189 y190 y191 y192 y193 V2 pa n sn fa fq ta ua SA
  refine law_third hE hC hO hoc hcap rfl SA ?_ y6 y7 y8 y9 y11 y12 y13 y16 y17 y18 y19 y20 y21 y22 y23 y24 y25 y26 y27 y28 y29 y30 y31 y32 y33 y34 y35 y36 y37 y38 y39 y40 y41 y42 y43 y44 y45 y46 y47 y48 y49 y50 y51 y52 y53 y54 y55 y56 y57 y58 y59 y60 y61 y62 y63 y64 y65 y66 y67 y68 y69 y70 y71 y72 y73 y74 y75 y76 y77 y78 y79 y80 y81 y82 y83 y84 y85 y86 y87 y88 y89 y90 y91 y92 y93 y94 y95 y96 y97 y98 y99 y100 y101 y102 y103 y104 y105 y106 y107 y108 y109 y110 y111 y112 y113 y114 y115 y116 y117 y118 y119 y120 y121 y122 y123 y124 y125 y126 y127 y128 y129 y130 y131 y132 y133 y134 y135 y136 y137 y138 y139 y140 y141 y142 y143 y144 y145 y146 y147 y148 y149 y150 y151 y152 y153 y154 y155 y156 y157 y158 y159 y160 y161 y162 y163 y164 y165 y166 y167 y168 y169 y170 y171 y172 y173 y174 y175 y176 y177 y178 y179 y180 y181 y182 y183 y184 y185 y186 y187 y188 y189 y190 y191 y192 y193
  intro z6 z7 z8 z9 z11 z12 z13 z18 z19 z20 z21 z22 z23 z24 z25 z26 z27 z28 z29 z30 z31 z32 z33 z34 z35 z36 z37 z38 z39 z40 z41 z42 z43 z44 z45 z46 z47 z48 z49 z50 z51 z52 z53 z54 z55 z56 z57 z58 z59 z60 z61 z62 z63 z64 z65 z66 z67 z68 z69 z70 z71 z72 z73 z74 z75 z76 z77 z78 z79 z80 z81 z82 z83 z84 z85 z86 z87 z88 z89 z90 z91 z92 z93 z94 z95 z96 z97 z98 z99 z100 z101 z102 z103 z104 z105 z106 z107 z108 z109 z110 z111 z112 z113 z114 z115 z116 z117 z118 z119 z120 z121 z122 z123 z124 z125 z126 z127 z128 z129 z130 z131 z132 z133 z134 z135 z136 z137 z138 z139 z140 z141 z142 z143 z144 z145 z146 z147 z148 z149 z150 z151 z152 z153 z154 z155 z156 z157 z158 z159 z160 z161 z162 z163 z164 z165 z166 z167 z168 z169 z170 z171 z172 z173 z174 z175 z176 z177 z178 z179 z180 z181 z182 z183 z184 z185 z186 z187 z188 z189 z190 z191 z192 z193 V3 nb nq tb v SB
  refine law_fourth hE SB (hErr _ pa n sn fa fq ta nb nq tb ua v) ?_ z6 z7 z8 z9 z11 z12 z13 z18 z19 z20 z21 z22 z23 z24 z25 z26 z27 z28 z29 z30 z31 z32 z33 z34 z35 z36 z37 z38 z39 z40 z41 z42 z43 z44 z45 z46 z47 z48 z49 z50 z51 z52 z53 z54 z55 z56 z57 z58 z59 z60 z61 z62 z63 z64 z65 z66 z67 z68 z69 z70 z71 z72 z73 z74 z75 z76 z77 z78 z79 z80 z81 z82 z83 z84 z85 z86 z87 z88 z89 z90 z91 z92 z93 z94 z95 z96 z97 z98 z99 z100 z101 z102 z103 z104 z105 z106 z107 z108 z109 z110 z111 z112 z113 z114 z115 z116 z117 z118 z119 z120 z121 z122 z123 z124 z125 z126 z127 z128 z129 z130 z131 z132 z133 z134 z135 z136 z137 z138 z139 z140 z141 z142 z143 z144 z145 z146 z147 z148 z149 z150 z151 z152 z153 z154 z155 z156 z157 z158 z159 z160 z161 z162 z163 z164 z165 z166 z167 z168 z169 z170 z171 z172 z173 z174 z175 z176 z177 z178 z179 z180 z181 z182 z183 z184 z185 z186 z187 z188 z189 z190 z191 z192 z193
  intro u6 u7 u8 u9 u11 u12 u13 u18 u19 u20 u23 u24 u25 u26 u27 u28 u29 u30 u31 u32 u33 u34 u35 u36 u37 u38 u39 u40 u41 u42 u43 u44 u45 u46 u47 u48 u49 u50 u51 u52 u53 u54 u55 u56 u57 u58 u59 u60 u61 u62 u63 u64 u65 u66 u67 u68 u69 u70 u71 u72 u73 u74 u75 u76 u77 u78 u79 u80 u81 u82 u83 u84 u85 u86 u87 u88 u89 u90 u91 u92 u93 u94 u95 u96 u97 u98 u99 u100 u101 u102 u103 u104 u105 u106 u107 u108 u109 u110 u111 u112 u113 u114 u115 u116 u117 u118 u119 u120 u121 u122 u123 u124 u125 u126 u127 u128 u129 u130 u131 u132 u133 u134 u135 u136 u137 u138 u139 u140 u141 u142 u143 u144 u145 u146 u147 u148 u149 u150 u151 u152 u153 u154 u155 u156 u157 u158 u159 u160 u161 u162 u163 u164 u165 u166 u167 u168 u169 u170 u171 u172 u173 u174 u175 u176 u177 u178 u179 u180 u181 u182 u183 u184 u185 u186 u187 u188 u189 u190 u191 u192 u193 V4 pb fb qb tu ub SC
  exact law_fifth hE hC SC hpost u6 u7 u8 u9 u11 u12 u13 u18 u19 u20 u23 u24 u25 u26 u27 u28 u29 u30 u31 u32 u33 u34 u35 u36 u37 u38 u39 u40 u41 u42 u43 u44 u45 u46 u47 u48 u49 u50 u51 u52 u53 u54 u55 u56 u57 u58 u59 u60 u61 u62 u63 u64 u65 u66 u67 u68 u69 u70 u71 u72 u73 u74 u75 u76 u77 u78 u79 u80 u81 u82 u83 u84 u85 u86 u87 u88 u89 u90 u91 u92 u93 u94 u95 u96 u97 u98 u99 u100 u101 u102 u103 u104 u105 u106 u107 u108 u109 u110 u111 u112 u113 u114 u115 u116 u117 u118 u119 u120 u121 u122 u123 u124 u125 u126 u127 u128 u129 u130 u131 u132 u133 u134 u135 u136 u137 u138 u139 u140 u141 u142 u143 u144 u145 u146 u147 u148 u149 u150 u151 u152 u153 u154 u155 u156 u157 u158 u159 u160 u161 u162 u163 u164 u165 u166 u167 u168 u169 u170 u171 u172 u173 u174 u175 u176 u177 u178 u179 u180 u181 u182 u183 u184 u185 u186 u187 u188 u189 u190 u191 u192 u193
end Go.Proofs.YtpajdmhgonmgoaaDoor

namespace Go.Proofs.YtpajdmhgonmgoaaDoor
open Go.RowKit
set_option linter.unusedVariables false
open Go.Conc Go.ConcN Go.RowKit
set_option linter.unusedSimpArgs false
end Go.Proofs.YtpajdmhgonmgoaaDoor

namespace Go.Proofs.YtpajdmhgonmgoaaDoor
open Go.RowKit
set_option linter.unusedVariables false
open Go.Conc Go.ConcN Go.RowKit
set_option linter.unusedSimpArgs false
theorem lone_tail {P : Program} {Post : Value → World → Prop} {b : Frame} {a : Act} {w : World} {c : Code} {fn : Func} {s : Tmp} (hn : b.kind = .normal) (hf : P.funcs[b.fn]? = some fn) (hi : P.inits.idxOf? b.fn = none) (hrs : fn.results = #[.tmp s])
    (h : c.wp P (fun e a' w' => e = .ret ∧ a'.defers = [] ∧ ∃ v, a'.tmps[s]? = some v ∧ Post v w') a w) : Reach P (G (b.at a [.code c]) []) w (LawEnd P Post) := by
  intro tr hp
  obtain ⟨e, a', w', ⟨rfl, hd, v, hv, hpost⟩, r⟩ := h b [] []
  obtain ⟨todo, n, hn'⟩ := r
  obtain ⟨last, hlast⟩ : ∃ last, lone { b.at a' todo with mode := .returning } [] w' = last := ⟨_, rfl⟩
  rw [hlast] at hn'
  have hN : runN P n (solo (G (b.at a [.code c]) []) w) = .next last := hn'
  have hT : runNT P n (solo (G (b.at a [.code c]) []) w) tr = (.next last, (runNT P n (solo (G (b.at a [.code c]) []) w) tr).2) := Prod.ext (by rw [runNT_fst, hN]) rfl
  obtain ⟨t1, ht1⟩ : ∃ t1, (runNT P n (solo (G (b.at a [.code c]) []) w) tr).2 = t1 := ⟨_, rfl⟩
  rw [ht1] at hT
  have sz : last.gs.size ≤ 1 := by rw [← hlast]; simp [lone]
  have ab := runNT_lone P n _ _ _ _ hT sz (Trace.allBy_of_forall fun o ho => Or.inr (hp.2.2 o ho))
  have hs : step P last = .ended (.done v) w' := by
    have e := ends_here (P := P) (b := b) (a := a') (todo := todo) (w := w') hn hd hf hi hrs hv
    rw [← hlast]
    exact step_ended (g := G { b.at a' todo with mode := .returning } []) rfl e
  have hw : last.rest.watch = false := by rw [← hlast]; rfl
  have ab2 := Trace.allBy_append ab (Trace.allBy_of_forall (stepT_lone P last true sz hw))
  refine ⟨0, _, tr, rfl, n, last, .done v, w', t1 ++ (stepT P last).2, ?_, hN, hs, v, rfl, hpost, fun said => not_race_of_allBy ab2, handedOver_of_allBy ab2, ⟨fun g hg => ?_, by rw [← hlast]; rfl⟩, fun i g hi h0 => ?_⟩
  · have hst : stepT P last = (.ended (.done v) w', (stepT P last).2) := Prod.ext (by rw [stepT_fst, hs]) rfl
    rw [runNT_add, hT]
    show runNT P 1 last t1 = _
    simp only [runNT]
    rw [hst]
  · rw [← hlast] at hg
    simp [lone] at hg
  · rw [← hlast] at hi
    have : i < 1 := by simpa [lone] using (Array.getElem?_eq_some_iff.1 hi).1
    omega
end Go.Proofs.YtpajdmhgonmgoaaDoor

namespace Go.Proofs.YtpajdmhgonmgoaaDoor
open Go.RowKit
set_option linter.unusedVariables false
set_option linter.unusedSimpArgs false
def LaidOut (w : World) (P s : Int) (cs : List Int) (e : Ending) (w' : World) : Prop := ∃ f, LaG P s cs f ∧ e = .returned (.int .i64 (f : Int)) ∧ Below w.heap.size w w'
set_option maxRecDepth 100000 in
set_option maxHeartbeats 6400000 in
theorem laid_any (P : Int) (xs : List EgT) (ea : Option Addr) (n c : Nat) (s : Int) (cs : List Int) (ca : Option Addr) (cn cc : Nat) (w : World) (hC : ArgP w cs ca cn cc) :
    Calls Tryd.prog 15 #[.agg #[.int .i64 P, .slice ea n c], .int .i64 s, .slice ca cn cc] w (LaidOut w P s cs) := by
  obtain ⟨w1, hw1⟩ : ∃ w1, w.alloc (.cells #[.int .i64 P, .slice ea n c] 24) = w1 := ⟨_, rfl⟩
  have HW1 := hide' hw1
  have B1 := hide' (show Below w.heap.size w w1 by rw [← hw1]; exact (Below.refl _ _).alloc (Nat.le_refl _) _)
  have R1 := hide' (show w1.heap[w.heap.size]? = some (.cells #[.int .i64 P, .slice ea n c] 24 (0, 0)) by rw [← hw1]; exact heap_alloc_new _ _)
  have HC := hide' (fun (V : World) (h : Below w.heap.size w V) => hC.below h)
  have HL := hide' hC.len
  have nm := hC.max
  unfold maxLen at nm
  have y0 := cell_of_row w1 _ 0 _ _ _ R1.out
  simp at y0
  clear hw1 hC
  go_enter Tryd.func15, Tryd.ntmps15
  by_cases k : (cn : Int) = P
  · have HK := hide' (show (cs.length : Int) = P by have := HL.out; omega)
    have e1 : ((cn : Int) != P) = false := by simpa using k
    clear k
    go_upto_region 1 with fail
    rw [HW1.out]
    go_wp2
    go_loopw [7] (fun iv wr => ∃ i : Nat, iv = .int .i64 (i : Int) ∧ i ≤ cn ∧ wr = w1 ∧ Hid (∀ j, j < i → ¬ badC s j (cs.getD j 0))) (fun iv _ => cn - (intOf iv).toNat)
    case atStart => exact ⟨0, rfl, by omega, rfl, hide' fun j h => by omega⟩
    case round =>
      obtain ⟨i, rfl, hi, rfl, HA⟩ := hrel
      clear y0
      by_cases d : (i : Int) < (cn : Int)
      · have hl : i < cs.length := by have := HL.out; omega
        obtain ⟨g, off, rfl, hg, c0⟩ := (HC.out wr B1.out).cells i hl
        obtain ⟨x, hx⟩ : ∃ x, cs[i] = x := ⟨_, rfl⟩
        rw [hx] at c0
        have EQ := hide' (show cs.getD i 0 = x by rw [at_getD hl, hx])
        have BAD := hide' (show badC s i x → LaidOut w P s cs (.returned (.int .i64 1)) wr from fun h => ⟨1, Or.inr (Or.inl ⟨HK.out, ⟨i, hl, by rw [EQ.out]; exact h⟩, rfl⟩), rfl, B1.out⟩)
        have NX := hide' (show ¬ badC s i x → ∀ j, j < i + 1 → ¬ badC s j (cs.getD j 0) from fun h j hj => by
          by_cases e : j = i
          · rw [e, EQ.out]; exact h
          · exact HA.out j (by omega))
        clear hx
        by_cases k1 : x < 0
        · have X := hide' (BAD.out (Or.inl k1))
          go_wp2
          go_ret
          exact X.out
        · by_cases k2 : 10000 < x
          · have X := hide' (BAD.out (Or.inr (Or.inl k2)))
            go_wp2
            go_ret
            exact X.out
          · by_cases k3 : (i : Int) = s
            · have e3 : ((i : Int) == s) = true := by simpa using k3
              by_cases k4 : x = 0
              · have X := hide' (NX.out (by unfold badC; omega))
                have e4 : (x != 0) = false := by simpa using k4
                clear k3 k4
                go_wp2
                exact ⟨⟨i + 1, by go_num, by omega, by trivial, X⟩, by simp [intOf]; omega⟩
              · have X := hide' (BAD.out (Or.inr (Or.inr ⟨k3, k4⟩)))
                have e4 : (x != 0) = true := by simpa using k4
                clear k3 k4
                go_wp2
                go_ret
                exact X.out
            · have e3 : ((i : Int) == s) = false := by simpa using k3
              have X := hide' (NX.out (by unfold badC; omega))
              clear k3
              go_wp2
              exact ⟨⟨i + 1, by go_num, by omega, by trivial, X⟩, by simp [intOf]; omega⟩
      · obtain rfl : i = cn := by omega
        go_wp2
        go_ret
        exact ⟨0, Or.inr (Or.inr ⟨HK.out, fun j hj => HA.out j (by have := HL.out; omega), rfl⟩), rfl, B1.out⟩
  · have X := hide' (show ¬ (cs.length : Int) = P by have := HL.out; omega)
    have e1 : ((cn : Int) != P) = true := by simpa using k
    clear k
    go_upto_region 1 with fail
    rw [HW1.out]
    go_wp2
    go_ret
    exact ⟨3, Or.inl ⟨X.out, rfl⟩, rfl, B1.out⟩
end Go.Proofs.YtpajdmhgonmgoaaDoor

