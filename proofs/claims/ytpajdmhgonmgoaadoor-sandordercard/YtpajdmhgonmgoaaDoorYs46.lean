/-
  What the last text of this claim leans on, part 46: Kfh, Kfi.
-/
import Derived.Test.YtpajdmhgonmgoaaDoorYs45
import Derived.Test.YtpajdmhgonmgoaaDoorYs5
namespace Go.Proofs.YtpajdmhgonmgoaaDoor
open Go.RowKit
set_option linter.unusedVariables false
open Go.Conc Go.ConcN Go.RowKit
set_option linter.unusedSimpArgs false
theorem SetA.below {w : World} {P s : Int} {xs : List EgT} {cl : List Int} {gx : Nat} {ea : Option Addr} {en ec pa n sn fa fq ta : Nat} {ua : Nat → Int} {V V' : World} (h : SetA w P s xs cl gx ea en ec pa n sn fa fq ta ua V) (b : Below V.heap.size V V') : SetA w P s xs cl gx ea en ec pa n sn fa fq ta ua V' :=
  ⟨h.bl.trans (b.mono h.bl.size), (b.block _ (ltS_of_block h.gr)).trans h.gr, h.eP, h.es, h.ok, h.pl, h.st, (b.block _ (ltS_of_block h.pile)).trans h.pile, h.chips.below b, h.often.below b, h.far⟩
/-- All but one block stands. -/
theorem SetA.but {w : World} {P s : Int} {xs : List EgT} {cl : List Int} {gx : Nat} {ea : Option Addr} {en ec pa n sn fa fq ta tb : Nat} {ua : Nat → Int} {V V' : World} (h : SetA w P s xs cl gx ea en ec pa n sn fa fq ta ua V) (hb : Below w.heap.size w V') (o : ∀ k, k < V.heap.size → k ≠ tb → V'.heap[k]? = V.heap[k]?) (n1 : gx ≠ tb) (n2 : pa ≠ tb) (n3 : fa ≠ tb) (n4 : ta ≠ tb) : SetA w P s xs cl gx ea en ec pa n sn fa fq ta ua V' :=
  ⟨hb, (o _ (ltS_of_block h.gr) n1).trans h.gr, h.eP, h.es, h.ok, h.pl, h.st, (o _ (ltS_of_block h.pile) n2).trans h.pile, row_on h.chips (o _ (row_lt h.chips) n3), row_on h.often (o _ (row_lt h.often) n4), h.far⟩
/-- Behind the single topples. -/
structure SetB (w : World) (P s : Int) (xs : List EgT) (cl : List Int) (gx : Nat) (ea : Option Addr) (en ec pa n sn fa fq ta : Nat) (ua : Nat → Int) (nb tb : Nat) (v : Nat → Int) (V : World) : Prop where
  a : SetA w P s xs cl gx ea en ec pa n sn fa fq ta ua V
  tm : V.heap[tb]? = some (.cells (arrS n fun k => .int .i64 (v k)) 3 (0, 0))
  now : ∃ F, RowAt V nb n F ∧ ∀ k, k < n → F k = chS n sn (btX xs) (chF cl) v k
  pl : PlS n sn (btX xs) (chF cl) v
theorem wp_code {P : Program} {Q : Exit → Act → World → Prop} {a : Act} {w : World} {c c' : Code} (h : c = c') (k : c.wp P Q a w) : c'.wp P Q a w := h ▸ k
set_option maxRecDepth 100000 in
set_option maxHeartbeats 12800000 in
theorem law_third {Post : Value → World → Prop} {P s wk : Int} {en ec cn cc on oc pa n sn fa fq ta : Nat} {xs : List EgT} {cl os : List Int} {ea ca oa : Option Addr} {w W : World} {gx : Nat} {ua : Nat → Int} (hE : ArgE w xs ea en ec) (hC : ArgP w cl ca cn cc) (hO : ArgP w os oa on oc) (hoc : on ≤ oc) (hcap : oc ≤ 9223372036854775807) (egx : gx = w.heap.size) (SA : SetA w P s xs cl gx ea en ec pa n sn fa fq ta ua W)
    (hN : ∀ (x6 x7 x8 x9 x11 x12 x13 x18 x19 x20 x21 x22 x23 x24 x25 x26 x27 x28 x29 x30 x31 x32 x33 x34 x35 x36 x37 x38 x39 x40 x41 x42 x43 x44 x45 x46 x47 x48 x49 x50 x51 x52 x53 x54 x55 x56 x57 x58 x59 x60 x61 x62 x63 x64 x65 x66 x67 x68 x69 x70 x71 x72 x73 x74 x75 x76 x77 x78 x79 x80 x81 x82 x83 x84 x85 x86 x87 x88 x89 x90 x91 x92 x93 x94 x95 x96 x97 x98 x99 x100 x101 x102 x103 x104 x105 x106 x107 x108 x109 x110 x111 x112 x113 x114 x115 x116 x117 x118 x119 x120 x121 x122 x123 x124 x125 x126 x127 x128 x129 x130 x131 x132 x133 x134 x135 x136 x137 x138 x139 x140 x141 x142 x143 x144 x145 x146 x147 x148 x149 x150 x151 x152 x153 x154 x155 x156 x157 x158 x159 x160 x161 x162 x163 x164 x165 x166 x167 x168 x169 x170 x171 x172 x173 x174 x175 x176 x177 x178 x179 x180 x181 x182 x183 x184 x185 x186 x187 x188 x189 x190 x191 x192 x193 : Value) (V : World) (nb nq tb : Nat) (v : Nat → Int), SetB w P s xs cl gx ea en ec pa n sn fa fq ta ua nb tb v V → Reach Tryd.prog (G ((base 4).at ⟨#[(.agg #[.int .i64 P, .slice ea en ec]), (.int .i64 s), (.slice ca cn cc), (.slice oa on oc), (.int .i64 wk), (.pointer (some ⟨gx, 0, none⟩)), x6, x7, x8, x9, (.bool false), x11, x12, x13, (.pointer (some ⟨pa, 0, none⟩)), .nilIface, (slS nb n nq), (.slice (some ⟨tb, 0, none⟩) n n), x18, x19, x20, x21, x22, x23, x24, x25, x26, x27, x28, x29, x30, x31, x32, x33, x34, x35, x36, x37, x38, x39, x40, x41, x42, x43, x44, x45, x46, x47, x48, x49, x50, x51, x52, x53, x54, x55, x56, x57, x58, x59, x60, x61, x62, x63, x64, x65, x66, x67, x68, x69, x70, x71, x72, x73, x74, x75, x76, x77, x78, x79, x80, x81, x82, x83, x84, x85, x86, x87, x88, x89, x90, x91, x92, x93, x94, x95, x96, x97, x98, x99, x100, x101, x102, x103, x104, x105, x106, x107, x108, x109, x110, x111, x112, x113, x114, x115, x116, x117, x118, x119, x120, x121, x122, x123, x124, x125, x126, x127, x128, x129, x130, x131, x132, x133, x134, x135, x136, x137, x138, x139, x140, x141, x142, x143, x144, x145, x146, x147, x148, x149, x150, x151, x152, x153, x154, x155, x156, x157, x158, x159, x160, x161, x162, x163, x164, x165, x166, x167, x168, x169, x170, x171, x172, x173, x174, x175, x176, x177, x178, x179, x180, x181, x182, x183, x184, x185, x186, x187, x188, x189, x190, x191, x192, x193], []⟩ [.code (cR (cR (cR (cR (cR (cR (cR (cR (cR (cR (bodyOf Tryd.f4)))))))))))]) []) V (LawEnd Tryd.prog Post)) (x6 x7 x8 x9 x11 x12 x13 x16 x17 x18 x19 x20 x21 x22 x23 x24 x25 x26 x27 x28 x29 x30 x31 x32 x33 x34 x35 x36 x37 x38 x39 x40 x41 x42 x43 x44 x45 x46 x47 x48 x49 x50 x51 x52 x53 x54 x55 x56 x57 x58 x59 x60 x61 x62 x63 x64 x65 x66 x67 x68 x69 x70 x71 x72 x73 x74 x75 x76 x77 x78 x79 x80 x81 x82 x83 x84 x85 x86 x87 x88 x89 x90 x91 x92 x93 x94 x95 x96 x97 x98 x99 x100 x101 x102 x103 x104 x105 x106 x107 x108 x109 x110 x111 x112 x113 x114 x115 x116 x117 x118 x119 x120 x121 x122 x123 x124 x125 x126 x127 x128 x129 x130 x131 x132 x133 x134 x135 x136 x137 x138 x139 x140 x141 x142 x143 x144 x145 x146 x147 x148 x149 x150 x151 x152 x153 x154 x155 x156 x157 x158 x159 x160 x161 x162 x163 x164 x165 x166 x167 x168 x169 x170 x171 x172 x173 x174 x175 x176 x177 x178 x179 x180 x181 x182 x183 x184 x185 x186 x187 x188 x189 x190 x191 x192 x193 : Value) :
    Reach Tryd.prog (G ((base 4).at ⟨#[(.agg #[.int .i64 P, .slice ea en ec]), (.int .i64 s), (.slice ca cn cc), (.slice oa on oc), (.int .i64 wk), (.pointer (some ⟨gx, 0, none⟩)), x6, x7, x8, x9, (.bool false), x11, x12, x13, (.pointer (some ⟨pa, 0, none⟩)), .nilIface, x16, x17, x18, x19, x20, x21, x22, x23, x24, x25, x26, x27, x28, x29, x30, x31, x32, x33, x34, x35, x36, x37, x38, x39, x40, x41, x42, x43, x44, x45, x46, x47, x48, x49, x50, x51, x52, x53, x54, x55, x56, x57, x58, x59, x60, x61, x62, x63, x64, x65, x66, x67, x68, x69, x70, x71, x72, x73, x74, x75, x76, x77, x78, x79, x80, x81, x82, x83, x84, x85, x86, x87, x88, x89, x90, x91, x92, x93, x94, x95, x96, x97, x98, x99, x100, x101, x102, x103, x104, x105, x106, x107, x108, x109, x110, x111, x112, x113, x114, x115, x116, x117, x118, x119, x120, x121, x122, x123, x124, x125, x126, x127, x128, x129, x130, x131, x132, x133, x134, x135, x136, x137, x138, x139, x140, x141, x142, x143, x144, x145, x146, x147, x148, x149, x150, x151, x152, x153, x154, x155, x156, x157, x158, x159, x160, x161, x162, x163, x164, x165, x166, x167, x168, x169, x170, x171, x172, x173, x174, x175, x176, x177, x178, x179, x180, x181, x182, x183, x184, x185, x186, x187, x188, x189, x190, x191, x192, x193], []⟩ [.code (cR (cR (cR (cR (cR (cR (bodyOf Tryd.f4)))))))]) []) W (LawEnd Tryd.prog Post) := by
  obtain ⟨i0, hi0, hz⟩ := Option.map_eq_some_iff.1 info_int
  simp only [Prod.mk.injEq] at hz
  obtain ⟨hz0, hz1, hz2⟩ := hz
  have HN := hide' hN
  have HE := hide' hE
  have HO := hide' hO
  have HA := hide' SA
  have HK := hide' (And.intro hoc (And.intro hcap egx))
  have n10 := SA.ok.ok.p2
  have n01 := SA.ok.ok.p1
  obtain rfl : cn = n := by rw [hC.len, SA.ok.len]
  obtain rfl := SA.eP
  obtain rfl := SA.es
  have hCW := hC.below SA.bl
  have ln : cl.length = cn := SA.ok.len
  obtain ⟨g0, off, rfl, hg0, -⟩ := hCW.cells 0 (by omega)
  have NW := hide' (show ∀ j u, (cl.map (Value.int .i64))[j]? = some u → W.cell? ((⟨g0, off, none⟩ : Addr).add j) = some u from fun j u hj => by
    have hl : j < cl.length := by simpa using (List.getElem?_eq_some_iff.1 hj).1
    obtain ⟨g, o, e, hg, hc⟩ := hCW.cells j hl
    simp at e
    obtain ⟨rfl, rfl⟩ := e
    have ad : (⟨g0, off, none⟩ : Addr).add j = ⟨g0, off + j, none⟩ := by simp [Addr.add]
    rw [ad, hc]
    simpa [hl] using hj)
  clear hN hE hO SA hoc hcap egx hCW hC hg0
  simp only [cR, bodyOf, Tryd.f4, Option.getD_some] at HN
  simp only [cR, bodyOf, Tryd.f4, Option.getD_some]
  refine reach_nrm sand_mild (by k_ne) funcs4 inits4 (by decide +kernel) rfl ?_
  go_wp2
  show Reach _ _ _ _
  refine reach_nrm sand_mild (by k_ne) funcs4 inits4 (by decide +kernel) rfl ?_
  go_wp2_with (at_builtin; refine wpList_append_own _ rfl _ _ 25 rfl W.heap.size 3 i0 (.int .i64 0) 1 8 Tryd.underlying25 hi0 hz0 hz1 hz2 rfl (by decide) _ 0 [] rfl (World.ownsRow_nil _ _ _ _) ⟨g0, off, none⟩ cn cc (cl.map (Value.int .i64)) rfl (by rw [List.length_map]; omega) (fun j u hj => NW.out j u hj) (fun u hu => by obtain ⟨x, _, rfl⟩ := List.mem_map.1 hu; rfl) (by unfold maxLen; omega) (by omega) (by simp) ?_)
  intro v' w1 hown hgrow hnil
  have hown' : w1.ownsRow W.heap.size 3 1 v' cn (cl.map (Value.int .i64)) := by simpa using hown
  obtain ⟨nb, nq, rfl, hnb, hlt⟩ := hown'.form (by omega)
  have b1 : Below W.heap.size W w1 := (Below.refl _ _).grown hgrow (Nat.le_refl _) (by intro k hk; simp [Value.ownBlock] at hk)
  have RN := hide' (row_of_own hown' ln)
  have A1 := hide' (HA.out.below b1)
  have L1 := hide' (show nb < w1.heap.size ∧ W.heap.size ≤ w1.heap.size from ⟨row_lt RN.out, b1.size⟩)
  clear hown hown' hgrow hnil b1 hnb hlt NW hi0 hz0 hz1 hz2
  go_wp2
  show Reach _ _ _ _
  have mk := mk_intR cn n10
  have y0 := cell_of_row w1 _ 0 _ _ _ A1.out.gr
  simp at y0
  refine reach_nrm sand_mild (by k_ne) funcs4 inits4 (by decide +kernel) rfl ?_
  go_wp2
  obtain ⟨tb, htb⟩ : ∃ tb, w1.heap.size = tb := ⟨_, rfl⟩
  obtain ⟨w2, hw2⟩ : ∃ w2, w1.alloc (.cells (arrS cn fun _ => .int .i64 0) 3) = w2 := ⟨_, rfl⟩
  rw [htb, hw2]
  have b2 : Below w1.heap.size w1 w2 := by rw [← hw2]; exact (Below.refl _ _).alloc (Nat.le_refl _) _
  have A2 := hide' (A1.out.below b2)
  have TM := hide' (show w2.heap[tb]? = some (.cells (arrS cn fun k => .int .i64 ((fun _ => (0 : Int)) k)) 3 (0, 0)) by rw [← hw2, ← htb]; exact heap_alloc_new _ _)
  have RN2 := hide' (RN.out.below b2)
  have GCC := HA.out.ok
  have H0 := hide' (show LpI w2 w.heap.size gx tb cn sn xs ea en ec (btX xs) (chF cl) (fun _ => 0) nb w2 from ⟨Below.refl _ _, fun _ _ _ => rfl, TM.out, ⟨chF cl, RN2.out, fun k hk => by
      unfold chS
      by_cases q : k = sn
      · rw [if_pos q, q]; exact GCC.sink
      · rw [if_neg q, lap_zero]; omega⟩, PlS.start fun k hk => (GCC.bnd k hk).1, by have := L1.out; omega⟩)
  have FR := hide' (show gx < tb ∧ pa < tb ∧ fa < tb ∧ ta < tb ∧ w.heap.size ≤ tb by
    have h1 := ltS_of_block HA.out.gr
    have h2 := ltS_of_block HA.out.pile
    have h3 := row_lt HA.out.chips
    have h4 := row_lt HA.out.often
    have h5 := L1.out
    have h6 := HA.out.bl.size
    exact ⟨by omega, by omega, by omega, by omega, by omega⟩)
  clear b2 hw2 htb mk y0
  show Reach _ _ _ _
  refine reach_nrm sand_mild (by k_ne) funcs4 inits4 (by decide +kernel) rfl ?_
  refine wp_code (c := (cL (cR (cR (cR (cR (cR (cR (cR (cR (cR (bodyOf Tryd.f4)))))))))))) ?_ (loop0_wp GCC HE.out HO.out HK.out.1 HK.out.2.1 A2.out.bl (by have := HK.out.2.2; omega) FR.out.2.2.2.2 (by have := FR.out; omega) A2.out.gr H0.out _ _ _ _ _ _ _ _ _ _ _ _ _ _ _ _ _ _ _ _ _ _ _ _ _ _ _ _ _ _ _ _ _ _ _ _ _ _ _ _ _ _ _ _ _ _ _ _ _ _ _ _ _ _ _ _ _ _ _ _ _ _ _ _ _ _ _ _ _ _ _ _ _ _ _ _ _ _ _ _ _ _ _ _ _ _ _ _ _ _ _ _ _ _ _ _ _ _ _ _ _ _ _ _ _ _ _ _ _ _ _ _ _ _ _ _ _ _ _ _ _ _ _ _ _ _ _ _ _ _ _ _ _ _ _ _ _ _ _ _ _ _ _ _ _ _ _ _ _ _ _ _ _ _ _ _ _ _ _ _ _ _ _ _ _ _ _ _ _ _ _ _ _ _ _ _ _ _ _ _ _ _ _ _ _ _ _ _ _ ?_)
  · simp only [cL, cR, bodyOf, Tryd.f4, Option.getD_some]
  intro _ _ _ _ _ _ _ _ _ _ _ _ _ _ _ _ _ _ _ _ _ _ _ _ _ _ _ _ _ _ _ _ _ V v nb' nq' hI
  show Reach _ _ _ _
  exact HN.out _ _ _ _ _ _ _ _ _ _ _ _ _ _ _ _ _ _ _ _ _ _ _ _ _ _ _ _ _ _ _ _ _ _ _ _ _ _ _ _ _ _ _ _ _ _ _ _ _ _ _ _ _ _ _ _ _ _ _ _ _ _ _ _ _ _ _ _ _ _ _ _ _ _ _ _ _ _ _ _ _ _ _ _ _ _ _ _ _ _ _ _ _ _ _ _ _ _ _ _ _ _ _ _ _ _ _ _ _ _ _ _ _ _ _ _ _ _ _ _ _ _ _ _ _ _ _ _ _ _ _ _ _ _ _ _ _ _ _ _ _ _ _ _ _ _ _ _ _ _ _ _ _ _ _ _ _ _ _ _ _ _ _ _ _ _ _ _ _ _ _ _ _ _ _ _ _ _ _ _ _ _ _ V nb' nq' tb v ⟨A2.out.but (A2.out.bl.trans hI.bl) hI.old (by have := FR.out; omega) (by have := FR.out; omega) (by have := FR.out; omega) (by have := FR.out; omega), hI.tm, hI.now, hI.pl⟩
end Go.Proofs.YtpajdmhgonmgoaaDoor

namespace Go.Proofs.YtpajdmhgonmgoaaDoor
open Go.RowKit
set_option linter.unusedVariables false
open Go.Conc Go.ConcN Go.RowKit
set_option linter.unusedSimpArgs false
theorem SetB.below {w : World} {P s : Int} {xs : List EgT} {cl : List Int} {gx : Nat} {ea : Option Addr} {en ec pa n sn fa fq ta nb tb : Nat} {ua v : Nat → Int} {V V' : World} (h : SetB w P s xs cl gx ea en ec pa n sn fa fq ta ua nb tb v V) (b : Below V.heap.size V V') : SetB w P s xs cl gx ea en ec pa n sn fa fq ta ua nb tb v V' := by
  obtain ⟨F, r, e⟩ := h.now
  exact ⟨h.a.below b, (b.block _ (ltS_of_block h.tm)).trans h.tm, ⟨F, r.below b, e⟩, h.pl⟩
/-- Both ways settled. -/
structure SetC (w : World) (P s : Int) (xs : List EgT) (cl : List Int) (gx : Nat) (ea : Option Addr) (en ec pa n sn fa fq ta : Nat) (ua : Nat → Int) (nb tb : Nat) (v : Nat → Int) (pb fb qb tu : Nat) (ub : Nat → Int) (V : World) : Prop where
  b : SetB w P s xs cl gx ea en ec pa n sn fa fq ta ua nb tb v V
  pile : V.heap[pb]? = some (.cells #[.slice (some ⟨fb, 0, none⟩) n qb, .slice (some ⟨tu, 0, none⟩) n n] 33 (0, 0))
  chips : RowAt V fb n (chS n sn (btX xs) (chF cl) ua)
  often : RowAt V tu n ub
  eq : ∀ k, k < n → ub k + v k = ua k
set_option maxRecDepth 100000 in
set_option maxHeartbeats 12800000 in
theorem law_fourth {Post : Value → World → Prop} {P s wk : Int} {en ec cn cc on oc pa n sn fa fq ta nb nq tb : Nat} {xs : List EgT} {cl : List Int} {ea ca oa : Option Addr} {w W : World} {gx : Nat} {ua v : Nat → Int} (hE : ArgE w xs ea en ec) (SB : SetB w P s xs cl gx ea en ec pa n sn fa fq ta ua nb tb v W)
    (hErr : ∀ (x6 x7 x8 x9 x11 x12 x13 x18 x19 x20 x21 x23 x24 x25 x26 x27 x28 x29 x30 x31 x32 x33 x34 x35 x36 x37 x38 x39 x40 x41 x42 x43 x44 x45 x46 x47 x48 x49 x50 x51 x52 x53 x54 x55 x56 x57 x58 x59 x60 x61 x62 x63 x64 x65 x66 x67 x68 x69 x70 x71 x72 x73 x74 x75 x76 x77 x78 x79 x80 x81 x82 x83 x84 x85 x86 x87 x88 x89 x90 x91 x92 x93 x94 x95 x96 x97 x98 x99 x100 x101 x102 x103 x104 x105 x106 x107 x108 x109 x110 x111 x112 x113 x114 x115 x116 x117 x118 x119 x120 x121 x122 x123 x124 x125 x126 x127 x128 x129 x130 x131 x132 x133 x134 x135 x136 x137 x138 x139 x140 x141 x142 x143 x144 x145 x146 x147 x148 x149 x150 x151 x152 x153 x154 x155 x156 x157 x158 x159 x160 x161 x162 x163 x164 x165 x166 x167 x168 x169 x170 x171 x172 x173 x174 x175 x176 x177 x178 x179 x180 x181 x182 x183 x184 x185 x186 x187 x188 x189 x190 x191 x192 x193 : Value) (V : World) (f : Nat) (F : Nat → Int), ¬ f = 0 → ChG (n : Int) xs (sn : Int) ((List.range n).map F) f → RowAt V nb n F → SetB w P s xs cl gx ea en ec pa n sn fa fq ta ua nb tb v V → Reach Tryd.prog (G ((base 4).at ⟨#[(.agg #[.int .i64 P, .slice ea en ec]), (.int .i64 s), (.slice ca cn cc), (.slice oa on oc), (.int .i64 wk), (.pointer (some ⟨gx, 0, none⟩)), x6, x7, x8, x9, (.bool false), x11, x12, x13, (.pointer (some ⟨pa, 0, none⟩)), .nilIface, (slS nb n nq), (.slice (some ⟨tb, 0, none⟩) n n), x18, x19, x20, x21, (errOf f), x23, x24, x25, x26, x27, x28, x29, x30, x31, x32, x33, x34, x35, x36, x37, x38, x39, x40, x41, x42, x43, x44, x45, x46, x47, x48, x49, x50, x51, x52, x53, x54, x55, x56, x57, x58, x59, x60, x61, x62, x63, x64, x65, x66, x67, x68, x69, x70, x71, x72, x73, x74, x75, x76, x77, x78, x79, x80, x81, x82, x83, x84, x85, x86, x87, x88, x89, x90, x91, x92, x93, x94, x95, x96, x97, x98, x99, x100, x101, x102, x103, x104, x105, x106, x107, x108, x109, x110, x111, x112, x113, x114, x115, x116, x117, x118, x119, x120, x121, x122, x123, x124, x125, x126, x127, x128, x129, x130, x131, x132, x133, x134, x135, x136, x137, x138, x139, x140, x141, x142, x143, x144, x145, x146, x147, x148, x149, x150, x151, x152, x153, x154, x155, x156, x157, x158, x159, x160, x161, x162, x163, x164, x165, x166, x167, x168, x169, x170, x171, x172, x173, x174, x175, x176, x177, x178, x179, x180, x181, x182, x183, x184, x185, x186, x187, x188, x189, x190, x191, x192, x193], []⟩ [.code (cR (cR (cR (cR (cR (cR (cR (cR (cR (cR (cR (bodyOf Tryd.f4))))))))))))]) []) V (LawEnd Tryd.prog Post))
    (hN : ∀ (x6 x7 x8 x9 x11 x12 x13 x18 x19 x20 x23 x24 x25 x26 x27 x28 x29 x30 x31 x32 x33 x34 x35 x36 x37 x38 x39 x40 x41 x42 x43 x44 x45 x46 x47 x48 x49 x50 x51 x52 x53 x54 x55 x56 x57 x58 x59 x60 x61 x62 x63 x64 x65 x66 x67 x68 x69 x70 x71 x72 x73 x74 x75 x76 x77 x78 x79 x80 x81 x82 x83 x84 x85 x86 x87 x88 x89 x90 x91 x92 x93 x94 x95 x96 x97 x98 x99 x100 x101 x102 x103 x104 x105 x106 x107 x108 x109 x110 x111 x112 x113 x114 x115 x116 x117 x118 x119 x120 x121 x122 x123 x124 x125 x126 x127 x128 x129 x130 x131 x132 x133 x134 x135 x136 x137 x138 x139 x140 x141 x142 x143 x144 x145 x146 x147 x148 x149 x150 x151 x152 x153 x154 x155 x156 x157 x158 x159 x160 x161 x162 x163 x164 x165 x166 x167 x168 x169 x170 x171 x172 x173 x174 x175 x176 x177 x178 x179 x180 x181 x182 x183 x184 x185 x186 x187 x188 x189 x190 x191 x192 x193 : Value) (V : World) (pb fb qb tu : Nat) (ub : Nat → Int), SetC w P s xs cl gx ea en ec pa n sn fa fq ta ua nb tb v pb fb qb tu ub V → Reach Tryd.prog (G ((base 4).at ⟨#[(.agg #[.int .i64 P, .slice ea en ec]), (.int .i64 s), (.slice ca cn cc), (.slice oa on oc), (.int .i64 wk), (.pointer (some ⟨gx, 0, none⟩)), x6, x7, x8, x9, (.bool false), x11, x12, x13, (.pointer (some ⟨pa, 0, none⟩)), .nilIface, (slS nb n nq), (.slice (some ⟨tb, 0, none⟩) n n), x18, x19, x20, (.pointer (some ⟨pb, 0, none⟩)), .nilIface, x23, x24, x25, x26, x27, x28, x29, x30, x31, x32, x33, x34, x35, x36, x37, x38, x39, x40, x41, x42, x43, x44, x45, x46, x47, x48, x49, x50, x51, x52, x53, x54, x55, x56, x57, x58, x59, x60, x61, x62, x63, x64, x65, x66, x67, x68, x69, x70, x71, x72, x73, x74, x75, x76, x77, x78, x79, x80, x81, x82, x83, x84, x85, x86, x87, x88, x89, x90, x91, x92, x93, x94, x95, x96, x97, x98, x99, x100, x101, x102, x103, x104, x105, x106, x107, x108, x109, x110, x111, x112, x113, x114, x115, x116, x117, x118, x119, x120, x121, x122, x123, x124, x125, x126, x127, x128, x129, x130, x131, x132, x133, x134, x135, x136, x137, x138, x139, x140, x141, x142, x143, x144, x145, x146, x147, x148, x149, x150, x151, x152, x153, x154, x155, x156, x157, x158, x159, x160, x161, x162, x163, x164, x165, x166, x167, x168, x169, x170, x171, x172, x173, x174, x175, x176, x177, x178, x179, x180, x181, x182, x183, x184, x185, x186, x187, x188, x189, x190, x191, x192, x193], []⟩ [.code (cR (cR (cR (cR (cR (cR (cR (cR (cR (cR (cR (cR (bodyOf Tryd.f4)))))))))))))]) []) V (LawEnd Tryd.prog Post)) (x6 x7 x8 x9 x11 x12 x13 x18 x19 x20 x21 x22 x23 x24 x25 x26 x27 x28 x29 x30 x31 x32 x33 x34 x35 x36 x37 x38 x39 x40 x41 x42 x43 x44 x45 x46 x47 x48 x49 x50 x51 x52 x53 x54 x55 x56 x57 x58 x59 x60 x61 x62 x63 x64 x65 x66 x67 x68 x69 x70 x71 x72 x73 x74 x75 x76 x77 x78 x79 x80 x81 x82 x83 x84 x85 x86 x87 x88 x89 x90 x91 x92 x93 x94 x95 x96 x97 x98 x99 x100 x101 x102 x103 x104 x105 x106 x107 x108 x109 x110 x111 x112 x113 x114 x115 x116 x117 x118 x119 x120 x121 x122 x123 x124 x125 x126 x127 x128 x129 x130 x131 x132 x133 x134 x135 x136 x137 x138 x139 x140 x141 x142 x143 x144 x145 x146 x147 x148 x149 x150 x151 x152 x153 x154 x155 x156 x157 x158 x159 x160 x161 x162 x163 x164 x165 x166 x167 x168 x169 x170 x171 x172 x173 x174 x175 x176 x177 x178 x179 x180 x181 x182 x183 x184 x185 x186 x187 x188 x189 x190 x191 x192 x193 : Value) :
    Reach Tryd.prog (G ((base 4).at ⟨#[(.agg #[.int .i64 P, .slice ea en ec]), (.int .i64 s), (.slice ca cn cc), (.slice oa on oc), (.int .i64 wk), (.pointer (some ⟨gx, 0, none⟩)), x6, x7, x8, x9, (.bool false), x11, x12, x13, (.pointer (some ⟨pa, 0, none⟩)), .nilIface, (slS nb n nq), (.slice (some ⟨tb, 0, none⟩) n n), x18, x19, x20, x21, x22, x23, x24, x25, x26, x27, x28, x29, x30, x31, x32, x33, x34, x35, x36, x37, x38, x39, x40, x41, x42, x43, x44, x45, x46, x47, x48, x49, x50, x51, x52, x53, x54, x55, x56, x57, x58, x59, x60, x61, x62, x63, x64, x65, x66, x67, x68, x69, x70, x71, x72, x73, x74, x75, x76, x77, x78, x79, x80, x81, x82, x83, x84, x85, x86, x87, x88, x89, x90, x91, x92, x93, x94, x95, x96, x97, x98, x99, x100, x101, x102, x103, x104, x105, x106, x107, x108, x109, x110, x111, x112, x113, x114, x115, x116, x117, x118, x119, x120, x121, x122, x123, x124, x125, x126, x127, x128, x129, x130, x131, x132, x133, x134, x135, x136, x137, x138, x139, x140, x141, x142, x143, x144, x145, x146, x147, x148, x149, x150, x151, x152, x153, x154, x155, x156, x157, x158, x159, x160, x161, x162, x163, x164, x165, x166, x167, x168, x169, x170, x171, x172, x173, x174, x175, x176, x177, x178, x179, x180, x181, x182, x183, x184, x185, x186, x187, x188, x189, x190, x191, x192, x193], []⟩ [.code (cR (cR (cR (cR (cR (cR (cR (cR (cR (cR (bodyOf Tryd.f4)))))))))))]) []) W (LawEnd Tryd.prog Post) := by
  have HN := hide' hN
  have HR := hide' hErr
  obtain ⟨F, rF, eF⟩ := SB.now
  have n10 := SB.a.ok.ok.p2
  obtain rfl := SB.a.eP
  obtain rfl := SB.a.es
  have ST := hide' (settleC_any (n : Int) xs ea en ec (sn : Int) ((List.range n).map F) (some ⟨nb, 0, none⟩) n nq W (hE.below SB.a.bl) (arg_of_row rF n10))
  have HB := hide' SB
  have RF := hide' rF
  have EF := hide' eF
  have gr := SB.a.gr
  have y0 := cell_of_row W _ 0 _ _ _ gr
  have y1 := cell_of_row W _ 1 _ _ _ gr
  simp at y0 y1
  clear hN hErr rF eF hE SB gr
  simp only [cR, bodyOf, Tryd.f4, Option.getD_some] at HN HR
  simp only [cR, bodyOf, Tryd.f4, Option.getD_some]
  refine reach_nrm sand_mild (by k_ne) funcs4 inits4 (by decide +kernel) rfl ?_
  simp only [slS]
  go_wp2_with fail
  refine ST.out.mono ?_
  rintro e w5 ⟨b5, f, hf, hout⟩
  have S5 := hide' (HB.out.below b5)
  have RF5 := hide' (RF.out.below b5)
  have B5 := hide' b5
  have HF := hide' hf
  have HOUT := hide' hout
  have Q5 := hide' (show ∀ (v1 v2 : Value) (V : World), w5.alloc (.cells #[v1, v2] 33) = V → Below w5.heap.size w5 V ∧ V.heap[w5.heap.size]? = some (.cells #[v1, v2] 33 (0, 0)) from fun v1 v2 V h => by
    rw [← h]; exact ⟨(Below.refl _ _).alloc (Nat.le_refl _) _, heap_alloc_new _ _⟩)
  clear hf hout y0 y1 b5
  rcases HOUT.out with ⟨h0, rfl⟩ | ⟨h0, n', sn', fb, qb, tu, u, en', es', rfl, pl, st, rc, ru, hfa, hft, hne⟩
  · have H0 := hide' h0
    obtain ⟨er, her⟩ : ∃ er, errOf f = er := ⟨_, rfl⟩
    have HER := hide' her
    rw [her]
    clear HOUT h0 her
    go_wp2
    obtain ⟨w6, hw6⟩ : ∃ w6, w5.alloc (.cells #[.slice none 0 0, .slice none 0 0] 33) = w6 := ⟨_, rfl⟩
    obtain ⟨b6, _⟩ := Q5.out _ _ w6 hw6
    rw [hw6, ← HER.out]
    exact HR.out _ _ _ _ _ _ _ _ _ _ _ _ _ _ _ _ _ _ _ _ _ _ _ _ _ _ _ _ _ _ _ _ _ _ _ _ _ _ _ _ _ _ _ _ _ _ _ _ _ _ _ _ _ _ _ _ _ _ _ _ _ _ _ _ _ _ _ _ _ _ _ _ _ _ _ _ _ _ _ _ _ _ _ _ _ _ _ _ _ _ _ _ _ _ _ _ _ _ _ _ _ _ _ _ _ _ _ _ _ _ _ _ _ _ _ _ _ _ _ _ _ _ _ _ _ _ _ _ _ _ _ _ _ _ _ _ _ _ _ _ _ _ _ _ _ _ _ _ _ _ _ _ _ _ _ _ _ _ _ _ _ _ _ _ _ _ _ _ _ _ _ _ _ _ _ _ _ _ _ _ _ _ w6 f F H0.out HF.out (RF5.out.below b6) (S5.out.below b6)
  · subst h0
    obtain rfl : n = n' := by omega
    obtain rfl : sn = sn' := by omega
    have LE := hide' (law_end (F := chF ((List.range n).map F)) HB.out.a.ok.pile.gr HB.out.a.pl HB.out.a.st HB.out.pl (fun k hk => by rw [chF_range hk]; exact EF.out k hk) pl st)
    have RC := hide' (row_ext rc fun k hk => (LE.out k hk).2)
    have RU := hide' ru
    simp only [slS]
    clear HOUT pl st rc ru hfa hft hne en' es' HF
    go_wp2
    obtain ⟨pb, hpb⟩ : ∃ pb, w5.heap.size = pb := ⟨_, rfl⟩
    obtain ⟨w6, hw6⟩ : ∃ w6, w5.alloc (.cells #[.slice (some ⟨fb, 0, none⟩) n qb, .slice (some ⟨tu, 0, none⟩) n n] 33) = w6 := ⟨_, rfl⟩
    obtain ⟨b6, p6⟩ := Q5.out _ _ w6 hw6
    rw [hpb, hw6]
    have SC := hide' (show SetC w (n : Int) (sn : Int) xs cl gx ea en ec pa n sn fa fq ta ua nb tb v pb fb qb tu u w6 from ⟨S5.out.below b6, by rw [← hpb]; exact p6, RC.out.below b6, RU.out.below b6, fun k hk => (LE.out k hk).1⟩)
    clear b6 p6 hw6 hpb
    show Reach _ _ _ _
    refine Reach.ctl rfl stepG_seq ?_
    refine Reach.ctl rfl stepG_seq ?_
    refine reach_wp sand_mild (by k_ne) funcs4 inits4 (by decide +kernel) rfl ?_
    go_wp2
    refine Reach.ctl rfl (stepG_cond (t := false) (by simp [Act.eval])) ?_
    simp only [if_false, Bool.false_eq_true, ↓reduceIte]
    refine Reach.ctl rfl stepG_skip ?_
    exact HN.out _ _ _ _ _ _ _ _ _ _ _ _ _ _ _ _ _ _ _ _ _ _ _ _ _ _ _ _ _ _ _ _ _ _ _ _ _ _ _ _ _ _ _ _ _ _ _ _ _ _ _ _ _ _ _ _ _ _ _ _ _ _ _ _ _ _ _ _ _ _ _ _ _ _ _ _ _ _ _ _ _ _ _ _ _ _ _ _ _ _ _ _ _ _ _ _ _ _ _ _ _ _ _ _ _ _ _ _ _ _ _ _ _ _ _ _ _ _ _ _ _ _ _ _ _ _ _ _ _ _ _ _ _ _ _ _ _ _ _ _ _ _ _ _ _ _ _ _ _ _ _ _ _ _ _ _ _ _ _ _ _ _ _ _ _ _ _ _ _ _ _ _ _ _ _ _ _ _ _ _ _ w6 pb fb qb tu u SC.out
end Go.Proofs.YtpajdmhgonmgoaaDoor

