/-
  What the last text of this claim leans on, part 35: Kfa, Kfb.
-/
import Derived.Test.YtpajdmhgonmgoaaDoorYs34
import Derived.Test.YtpajdmhgonmgoaaDoorYs9
import Derived.Test.YtpajdmhgonmgoaaDoorYs25
import Derived.Test.YtpajdmhgonmgoaaDoorYs28
import Derived.Deep.RegionWith
namespace Go.Proofs.YtpajdmhgonmgoaaDoor
open Go.RowKit
set_option linter.unusedVariables false
set_option linter.unusedSimpArgs false
theorem slice_one (g off on oc i i1 : Nat) (h1 : i + 1 = i1) (h : i1 ≤ oc) (W : World) : (Instr.slice 25 (.slice (some ⟨g, off, none⟩) on oc) (some (.int .i64 (i : Int))) (some (.int .i64 (i1 : Int))) none).run Tryd.prog W = .ok (.slice (some ⟨g, off + i, none⟩) 1 (oc - i)) W := by
  have e : (Tryd.prog.elem 25) = 3 := by kernel_rfl
  have hu : Tryd.prog.underlying 25 = some (.slice (Tryd.prog.elem 25)) := by rw [e]; exact Tryd.underlying25
  rw [run_slice_lh W 25 (some ⟨g, off, none⟩) on oc hu .i64 .i64 (i : Int) (i1 : Int) (by omega) (by omega) (by omega), e]
  have z : Sem.run Tryd.prog (sizeOf 3) W = .ok 1 W := by kernel_rfl
  rw [z]
  have k : ¬ oc = i := by omega
  have d : i1 - i = 1 := by omega
  simp [sliced, k, d, Addr.add]
theorem slice_oneA (g off on oc i i1 : Nat) (h1 : i + 1 = i1) (h : i1 ≤ oc) (W : World) : (Instr.sliceAt 25 (.slice (some ⟨g, off, none⟩) on oc) (some (.int .i64 (i : Int))) (some (.int .i64 (i1 : Int))) none).run Tryd.prog W = .ok (.slice (some ⟨g, off + i, none⟩) 1 (oc - i)) W := by
  have e : (Tryd.prog.elem 25) = 3 := by kernel_rfl
  have hu : Tryd.prog.underlying 25 = some (.slice (Tryd.prog.elem 25)) := by rw [e]; exact Tryd.underlying25
  rw [run_sliceAt_slice W 25 _ _ _ _ hu]
  exact slice_one g off on oc i i1 h1 h W
/-- On to the next piece alone: for a region that draws its order. -/
def nrmQ (Q : Act → World → Prop) : Exit → Act → World → Prop
  | .normal, a, w => Q a w
  | _, _, _ => False
/-- What stands between two topples. -/
structure LpI (W : World) (M gx tb n sn : Nat) (xs : List EgT) (ea : Option Addr) (en ec : Nat) (b : Nat → Nat → Int) (c v : Nat → Int) (nb : Nat) (V : World) : Prop where
  bl : Below M W V
  old : ∀ k, k < W.heap.size → k ≠ tb → V.heap[k]? = W.heap[k]?
  tm : V.heap[tb]? = some (.cells (arrS n fun k => .int .i64 (v k)) 3 (0, 0))
  now : ∃ F, RowAt V nb n F ∧ ∀ k, k < n → F k = chS n sn b c v k
  pl : PlS n sn b c v
  ne : nb ≠ tb
theorem row_on' {w w' : World} {g n : Nat} {f : Nat → Int} (h : RowAt w g n f) (e : w'.heap[g]? = w.heap[g]?) : RowAt w' g n f := by
  obtain ⟨C, h1, h2⟩ := h
  exact ⟨C, e.trans h1, h2⟩
theorem arg_of_row {w : World} {g n q : Nat} {F : Nat → Int} (h : RowAt w g n F) (hn : n ≤ 10) : ArgP w ((List.range n).map F) (some ⟨g, 0, none⟩) n q := by
  refine ⟨by simp, by unfold maxLen; omega, fun k hk => ?_⟩
  have hk' : k < n := by simpa using hk
  obtain ⟨C, h1, h2⟩ := h
  refine ⟨g, 0, rfl, ltS_of_block h1, ?_⟩
  rw [Nat.zero_add]
  have := (cell_of_row w g k _ _ _ h1).trans (h2 k hk')
  rw [this]
  simp
theorem chF_range {n : Nat} {F : Nat → Int} {k : Nat} (h : k < n) : chF ((List.range n).map F) k = F k := by
  unfold chF
  simp [List.getD, h]
theorem LpI.below {W : World} {M gx tb n sn : Nat} {xs : List EgT} {ea : Option Addr} {en ec : Nat} {b : Nat → Nat → Int} {c v : Nat → Int} {nb : Nat} {V V' : World} (h : LpI W M gx tb n sn xs ea en ec b c v nb V) (hM : M ≤ W.heap.size) (b' : Below V.heap.size V V') : LpI W M gx tb n sn xs ea en ec b c v nb V' := by
  have s1 := h.bl.size
  obtain ⟨F, r, e⟩ := h.now
  exact ⟨h.bl.trans (b'.mono (by omega)), fun k hk ht => (b'.block k (by omega)).trans (h.old k hk ht), (b'.block tb (ltS_of_block h.tm)).trans h.tm, ⟨F, row_on' r (b'.block nb (by obtain ⟨C, h1, _⟩ := r; exact ltS_of_block h1)), e⟩, h.pl, h.ne⟩
theorem LpI.up {W : World} {M gx tb n sn : Nat} {xs : List EgT} {ea : Option Addr} {en ec : Nat} {cl : List Int} {v F : Nat → Int} {nb nb' k : Nat} {V0 V : World} (h : LpI W M gx tb n sn xs ea en ec (btX xs) (chF cl) v nb V) (hM : M ≤ W.heap.size) (tM : M ≤ tb) (GC : GoodC n sn xs cl) (rF : RowAt V0 nb n F) (eF : ∀ k, k < n → F k = chS n sn (btX xs) (chF cl) v k) (kn : k < n) (ks : k ≠ sn) (can : smS n (btX xs k) ≤ chF ((List.range n).map F) k) (row : RowAt V nb' n (tpF n sn (btX xs) (chF ((List.range n).map F)) k 1)) (hn : tb < nb') :
    LpI W M gx tb n sn xs ea en ec (btX xs) (chF cl) (upS v k 1) nb' (V.setCell ⟨tb, k, none⟩ (.int .i64 (v k + 1))) := by
  have st := law_step (F := chF ((List.range n).map F)) GC.pile.gr h.pl (fun j hj => by rw [chF_range hj]; exact eF j hj) kn ks can
  refine ⟨h.bl.setCell (p := ⟨tb, k, none⟩) tM _, fun j hj ht => ?_, ?_, ⟨_, row_on' row ?_, st.2⟩, st.1, by omega⟩
  · rw [hSet _ _ _ _ ht]; exact h.old j hj ht
  · rw [heap_setCell_same _ _ _ _ _ _ h.tm, arrS_set]
    congr 2
    exact arrS_ext fun j _ => by
      unfold upS
      by_cases q : j = k
      · rw [if_pos q, if_pos q, q]
      · rw [if_neg q, if_neg q]
  · exact hSet _ _ _ _ (by show nb' ≠ tb; omega)
set_option maxRecDepth 100000 in
set_option maxHeartbeats 12800000 in
theorem loop0_wp {Q : Act → World → Prop} {w W : World} {gx tb n sn on oc en ec nb0 nq0 : Nat} {xs : List EgT} {cl os : List Int} {ea oa : Option Addr} (GC : GoodC n sn xs cl) (hE : ArgE w xs ea en ec) (hO : ArgP w os oa on oc) (hoc : on ≤ oc) (hcap : oc ≤ 9223372036854775807) (hM : Below w.heap.size w W) (gM : w.heap.size ≤ gx) (tM : w.heap.size ≤ tb) (gt : gx ≠ tb) (hgx : W.heap[gx]? = some (.cells #[.int .i64 (n : Int), .slice ea en ec] 24 (0, 0)))
    (h0 : LpI W w.heap.size gx tb n sn xs ea en ec (btX xs) (chF cl) (fun _ => 0) nb0 W) (x0 x2 x4 x6 x7 x8 x9 x10 x11 x12 x13 x14 x15 x18 x19 x20 x21 x22 x23 x24 x25 x26 x27 x28 x29 x30 x31 x32 x33 x34 x35 x36 x37 x38 x39 x40 x41 x42 x43 x44 x45 x46 x47 x48 x49 x50 x51 x52 x53 x54 x55 x56 x57 x58 x59 x60 x61 x62 x63 x64 x65 x66 x67 x68 x69 x70 x71 x72 x73 x74 x75 x76 x77 x78 x79 x80 x81 x82 x83 x84 x85 x86 x87 x88 x89 x90 x91 x92 x93 x94 x95 x96 x97 x98 x99 x100 x101 x102 x103 x104 x105 x106 x107 x108 x109 x110 x111 x112 x113 x114 x115 x116 x117 x118 x119 x120 x121 x122 x123 x124 x125 x126 x127 x128 x129 x130 x131 x132 x133 x134 x135 x136 x137 x138 x139 x140 x141 x142 x143 x144 x145 x146 x147 x148 x149 x150 x151 x152 x153 x154 x155 x156 x157 x158 x159 x160 x161 x162 x163 x164 x165 x166 x167 x168 x169 x170 x171 x172 x173 x174 x175 x176 x177 x178 x179 x180 x181 x182 x183 x184 x185 x186 x187 x188 x189 x190 x191 x192 x193 : Value)
    (hQ : ∀ (z18 z19 z20 z75 z76 z77 z78 z79 z80 z81 z82 z83 z84 z85 z86 z87 z88 z89 z90 z91 z92 z93 z94 z95 z96 z97 z98 z99 z100 z101 z102 z103 z104 : Value) (V : World) (v : Nat → Int) (nb nq : Nat), LpI W w.heap.size gx tb n sn xs ea en ec (btX xs) (chF cl) v nb V → Q ⟨#[x0, (.int .i64 (sn : Int)), x2, (Value.slice oa on oc), x4, (Value.pointer (some ⟨gx, 0, none⟩)), x6, x7, x8, x9, x10, x11, x12, x13, x14, x15, (slS nb n nq), (Value.slice (some ⟨tb, 0, none⟩) n n), z18, z19, z20, x21, x22, x23, x24, x25, x26, x27, x28, x29, x30, x31, x32, x33, x34, x35, x36, x37, x38, x39, x40, x41, x42, x43, x44, x45, x46, x47, x48, x49, x50, x51, x52, x53, x54, x55, x56, x57, x58, x59, x60, x61, x62, x63, x64, x65, x66, x67, x68, x69, x70, x71, x72, x73, x74, z75, z76, z77, z78, z79, z80, z81, z82, z83, z84, z85, z86, z87, z88, z89, z90, z91, z92, z93, z94, z95, z96, z97, z98, z99, z100, z101, z102, z103, z104, x105, x106, x107, x108, x109, x110, x111, x112, x113, x114, x115, x116, x117, x118, x119, x120, x121, x122, x123, x124, x125, x126, x127, x128, x129, x130, x131, x132, x133, x134, x135, x136, x137, x138, x139, x140, x141, x142, x143, x144, x145, x146, x147, x148, x149, x150, x151, x152, x153, x154, x155, x156, x157, x158, x159, x160, x161, x162, x163, x164, x165, x166, x167, x168, x169, x170, x171, x172, x173, x174, x175, x176, x177, x178, x179, x180, x181, x182, x183, x184, x185, x186, x187, x188, x189, x190, x191, x192, x193], []⟩ V) :
    ((cL (cR (cR (cR (cR (cR (cR (cR (cR (cR (bodyOf Tryd.f4)))))))))))).wp Tryd.prog (nrmQ Q) ⟨#[x0, (.int .i64 (sn : Int)), x2, (Value.slice oa on oc), x4, (Value.pointer (some ⟨gx, 0, none⟩)), x6, x7, x8, x9, x10, x11, x12, x13, x14, x15, (slS nb0 n nq0), (Value.slice (some ⟨tb, 0, none⟩) n n), x18, x19, x20, x21, x22, x23, x24, x25, x26, x27, x28, x29, x30, x31, x32, x33, x34, x35, x36, x37, x38, x39, x40, x41, x42, x43, x44, x45, x46, x47, x48, x49, x50, x51, x52, x53, x54, x55, x56, x57, x58, x59, x60, x61, x62, x63, x64, x65, x66, x67, x68, x69, x70, x71, x72, x73, x74, x75, x76, x77, x78, x79, x80, x81, x82, x83, x84, x85, x86, x87, x88, x89, x90, x91, x92, x93, x94, x95, x96, x97, x98, x99, x100, x101, x102, x103, x104, x105, x106, x107, x108, x109, x110, x111, x112, x113, x114, x115, x116, x117, x118, x119, x120, x121, x122, x123, x124, x125, x126, x127, x128, x129, x130, x131, x132, x133, x134, x135, x136, x137, x138, x139, x140, x141, x142, x143, x144, x145, x146, x147, x148, x149, x150, x151, x152, x153, x154, x155, x156, x157, x158, x159, x160, x161, x162, x163, x164, x165, x166, x167, x168, x169, x170, x171, x172, x173, x174, x175, x176, x177, x178, x179, x180, x181, x182, x183, x184, x185, x186, x187, x188, x189, x190, x191, x192, x193], []⟩ W := by
  have HE := hide' (fun (V : World) (h : Below w.heap.size w V) => hE.below h)
  have HO := hide' (fun (V : World) (h : Below w.heap.size w V) => hO.below h)
  have HL := hide' hO.len
  have nm := hO.max
  unfold maxLen at nm
  have HQ := hide' hQ
  have HG := hide' GC
  have HM := hide' hM
  have H0 := hide' h0
  have HOC := hide' hoc
  have HT := hide' (show w.heap.size ≤ gx ∧ w.heap.size ≤ tb ∧ gx ≠ tb ∧ gx < W.heap.size from ⟨gM, tM, gt, ltS_of_block hgx⟩)
  have HX := hide' (fun (V : World) (v : Nat → Int) (nb : Nat) (h : LpI W w.heap.size gx tb n sn xs ea en ec (btX xs) (chF cl) v nb V) => show V.heap[gx]? = some (.cells #[.int .i64 (n : Int), .slice ea en ec] 24 (0, 0)) from (h.old gx (ltS_of_block hgx) gt).trans hgx)
  clear hQ hE hO hM h0 hoc GC gM tM gt hgx
  simp only [cL, cR, bodyOf, Tryd.f4, Option.getD_some]
  go_wp2
  go_loopw [18, 16] (fun iv nv V => ∃ (i : Nat) (v : Nat → Int) (nb nq : Nat), iv = .int .i64 (i : Int) ∧ i ≤ on ∧ nv = slS nb n nq ∧ Hid (LpI W w.heap.size gx tb n sn xs ea en ec (btX xs) (chF cl) v nb V)) (fun iv _ _ => on - (intOf iv).toNat)
  case atStart => exact ⟨0, fun _ => 0, nb0, nq0, rfl, by omega, rfl, H0⟩
  case round =>
    obtain ⟨i, v, nb, nq, rfl, hi, rfl, HI⟩ := hrel
    by_cases d : (i : Int) < (on : Int)
    · have hl : i < os.length := by have := HL.out; omega
      have BW := hide' (HM.out.trans HI.out.bl)
      obtain ⟨F, rF, eF⟩ := HI.out.now
      have n10 := HG.out.ok.p2
      have AN := hide' (arg_of_row (q := nq) rF n10)
      have gw := HX.out _ _ _ HI.out
      have y0 := cell_of_row wr _ 0 _ _ _ gw
      have y1 := cell_of_row wr _ 1 _ _ _ gw
      simp at y0 y1
      obtain ⟨og, ooff, eo, hog, hoc⟩ := (HO.out wr BW.out).cells i hl
      subst eo
      obtain ⟨x, hx⟩ : ∃ x, os[i] = x := ⟨_, rfl⟩
      rw [hx] at hoc
      have HXX := hide' (fun (V : World) (h : Below w.heap.size w V) => show V.cell? ⟨og, ooff + i, none⟩ = some (.int .i64 x) by
        obtain ⟨g', o', e', _, h2⟩ := (HO.out V h).cells i hl
        simp at e'
        obtain ⟨rfl, rfl⟩ := e'
        rw [h2, hx])
      obtain ⟨rm, hrm⟩ : ∃ rm, oc - i = rm := ⟨_, rfl⟩
      have AO := hide' (show ArgP wr.drew [x] (some ⟨og, ooff + i, none⟩) 1 rm from ⟨rfl, by unfold maxLen; omega, fun k hk => by
        have k0 : k = 0 := by simpa using hk
        subst k0
        exact ⟨og, ooff + i, rfl, hog, by simpa using hoc⟩⟩)
      have TC := hide' (topple1_any (n : Int) xs ea en ec (sn : Int) ((List.range n).map F) (some ⟨nb, 0, none⟩) n nq x (some ⟨og, ooff + i, none⟩) rm wr.drew (HE.out _ BW.out.drew) (arg_of_row (w := wr.drew) rF n10) AO.out)
      obtain ⟨i1, hi1⟩ : ∃ i1, i + 1 = i1 := ⟨_, rfl⟩
      have k1 := slice_oneA og ooff on oc i i1 hi1 (by have := HOC.out; omega)
      have k2 := slice_one og ooff on oc i i1 hi1 (by have := HOC.out; omega)
      have k3 : (i : Int) + 1 = (i1 : Int) := by omega
      have k4 : IntKind.i64.wrap (i1 : Int) = (i1 : Int) := by simp [IntKind.wrap, IntKind.bits, IntKind.signed]; omega
      have I1 := hide' hi1
      rw [hrm] at k1 k2
      have EF := hide' eF
      have RF := hide' rF
      clear rF eF hog hoc gw AO hx hrm hi1 n10
      rw [show slS nb n nq = .slice (some ⟨nb, 0, none⟩) n nq from rfl]
      go_upto_region 14 with fail
      go_region_with (go_at_call 14; refine TC.out.mono ?_; rintro e w4 ⟨b4, rv, er, rfl, hout⟩)
      have b4' : Below wr.heap.size wr w4 := (Below.refl _ _).drew.trans b4
      have S4 := hide' (HI.out.below HM.out.size b4')
      have W4 := hide' (BW.out.trans (b4'.mono BW.out.size))
      have B4 := hide' b4'
      have HOUT := hide' hout
      clear hout b4 b4' y0 y1 k1 k2 k3 k4
      rcases HOUT.out with ⟨t, d', rfl⟩ | ⟨rfl, n', sn', k, ca, q, en', es', GG, exk, kn, ks, can, rfl, row, hca⟩
      · clear HOUT
        go_wp2
        exact ⟨⟨i + 1, v, nb, nq, by go_num, by omega, rfl, S4⟩, by simp [intOf]; omega⟩
      · clear HOUT
        obtain rfl : n = n' := by omega
        obtain rfl : sn = sn' := by omega
        subst exk
        have UP := hide' (S4.out.up (F := F) HM.out.size HT.out.2.1 HG.out RF.out EF.out kn ks can row (by have := ltS_of_block HI.out.tm; have q : wr.drew.heap.size = wr.heap.size := rfl; omega) )
        have c0 := HXX.out w4 W4.out
        have m0 := cell_of_row w4 tb k _ _ _ S4.out.tm
        rw [arrS_get _ kn] at m0
        have fz := frozen_of_row w4 tb k _ _ S4.out.tm
        have lk : (k : Int) < (n : Int) := by omega
        have lk0 : (0 : Int) ≤ (k : Int) := by omega
        have PP := HG.out.pile
        have v0 := HI.out.pl.pos k kn
        have v1 := HI.out.pl.few PP.gr PP.c0p PP.sum k kn
        have n10 := HG.out.ok.p2
        obtain ⟨y, hy⟩ : ∃ y, v k = y := ⟨_, rfl⟩
        rw [hy] at m0 v0 v1
        have y2 : y ≤ 1000000 := by
          have : ((n - 1 : Nat) : Int) ≤ 9 := by omega
          omega
        have kw : IntKind.i64.wrap (y + 1) = y + 1 := wrap_fit ⟨by omega, by omega⟩
        obtain ⟨w9, hw9⟩ : ∃ w9, w4.setCell ⟨tb, k, none⟩ (.int .i64 (y + 1)) = w9 := ⟨_, rfl⟩
        have U9 := hide' (show LpI W w.heap.size gx tb n sn xs ea en ec (btX xs) (chF cl) (upS v k 1) ca w9 by rw [← hw9, ← hy]; exact UP.out)
        have HW9 := hide' hw9
        clear UP GG ks can row hca PP v1 hy hw9 kn
        go_wp2
        rw [HW9.out]
        exact ⟨⟨i + 1, upS v k 1, ca, q, by go_num, by omega, rfl, U9⟩, by simp [intOf]; omega⟩
    · obtain rfl : i = on := by omega
      go_wp2
      exact HQ.out _ _ _ _ _ _ _ _ _ _ _ _ _ _ _ _ _ _ _ _ _ _ _ _ _ _ _ _ _ _ _ _ _ wr v nb nq HI.out
end Go.Proofs.YtpajdmhgonmgoaaDoor

namespace Go.Proofs.YtpajdmhgonmgoaaDoor
open Go.RowKit
set_option linter.unusedVariables false
set_option linter.unusedSimpArgs false
theorem row_cell' {w : World} {g n : Nat} {f : Nat → Int} (h : RowAt w g n f) {k : Nat} (hk : k < n) : w.cell? ⟨g, k, none⟩ = some (.int .i64 (f k)) := by
  obtain ⟨C, h1, h2⟩ := h
  exact (cell_of_row w g k _ _ _ h1).trans (h2 k hk)
set_option maxRecDepth 100000 in
set_option maxHeartbeats 12800000 in
theorem loop2_wp {Q : Act → World → Prop} {W : World} {gx pa pb ta tu tb n en ec : Nat} {ea : Option Addr} {ya yb : Value} {ua ub v : Nat → Int} (n10 : n ≤ 10) (hgx : W.heap[gx]? = some (.cells #[.int .i64 (n : Int), .slice ea en ec] 24 (0, 0)))
    (hA : W.heap[pa]? = some (.cells #[ya, .slice (some ⟨ta, 0, none⟩) n n] 33 (0, 0))) (hB : W.heap[pb]? = some (.cells #[yb, .slice (some ⟨tu, 0, none⟩) n n] 33 (0, 0))) (ra : RowAt W ta n ua) (rb : RowAt W tu n ub) (rt : RowAt W tb n v)
    (he : ∀ k, k < n → ub k + v k = ua k) (h0 : ∀ k, k < n → 0 ≤ ua k ∧ ua k ≤ 1000000) (x0 x1 x2 x3 x4 x6 x7 x8 x9 x10 x11 x12 x13 x15 x16 x18 x19 x20 x22 x23 x24 x25 x26 x27 x28 x29 x30 x31 x32 x33 x34 x35 x36 x37 x38 x39 x40 x41 x42 x43 x44 x45 x46 x47 x48 x49 x50 x51 x52 x53 x54 x55 x56 x57 x58 x59 x60 x61 x62 x63 x64 x65 x66 x67 x68 x69 x70 x71 x72 x73 x74 x75 x76 x77 x78 x79 x80 x81 x82 x83 x84 x85 x86 x87 x88 x89 x90 x91 x92 x93 x94 x95 x96 x97 x98 x99 x100 x101 x102 x103 x104 x105 x106 x107 x108 x109 x110 x111 x112 x113 x114 x115 x116 x117 x118 x119 x120 x121 x122 x123 x124 x125 x126 x127 x128 x129 x130 x131 x132 x133 x134 x135 x136 x137 x138 x139 x140 x141 x142 x143 x144 x145 x146 x147 x148 x149 x150 x151 x152 x153 x154 x155 x156 x157 x158 x159 x160 x161 x162 x163 x164 x165 x166 x167 x168 x169 x170 x171 x172 x173 x174 x175 x176 x177 x178 x179 x180 x181 x182 x183 x184 x185 x186 x187 x188 x189 x190 x191 x192 x193 : Value)
    (hQ : ∀ (z10 z25 z126 z127 z128 z129 z130 z131 z132 z133 z134 z135 z136 z137 z138 z139 z140 z141 z142 z143 z144 z145 z146 z147 z148 z149 z150 z151 z152 z153 z154 z155 z156 z157 z158 z159 z160 z161 z162 z163 : Value) (V : World), Below W.heap.size W V → Q ⟨#[x0, x1, x2, x3, x4, (Value.pointer (some ⟨gx, 0, none⟩)), x6, x7, x8, x9, z10, x11, x12, x13, (Value.pointer (some ⟨pa, 0, none⟩)), x15, x16, (Value.slice (some ⟨tb, 0, none⟩) n n), x18, x19, x20, (Value.pointer (some ⟨pb, 0, none⟩)), x22, x23, x24, z25, x26, x27, x28, x29, x30, x31, x32, x33, x34, x35, x36, x37, x38, x39, x40, x41, x42, x43, x44, x45, x46, x47, x48, x49, x50, x51, x52, x53, x54, x55, x56, x57, x58, x59, x60, x61, x62, x63, x64, x65, x66, x67, x68, x69, x70, x71, x72, x73, x74, x75, x76, x77, x78, x79, x80, x81, x82, x83, x84, x85, x86, x87, x88, x89, x90, x91, x92, x93, x94, x95, x96, x97, x98, x99, x100, x101, x102, x103, x104, x105, x106, x107, x108, x109, x110, x111, x112, x113, x114, x115, x116, x117, x118, x119, x120, x121, x122, x123, x124, x125, z126, z127, z128, z129, z130, z131, z132, z133, z134, z135, z136, z137, z138, z139, z140, z141, z142, z143, z144, z145, z146, z147, z148, z149, z150, z151, z152, z153, z154, z155, z156, z157, z158, z159, z160, z161, z162, z163, x164, x165, x166, x167, x168, x169, x170, x171, x172, x173, x174, x175, x176, x177, x178, x179, x180, x181, x182, x183, x184, x185, x186, x187, x188, x189, x190, x191, x192, x193], []⟩ V) :
    ((cL (cR (cR (cR (cR (cR (cR (cR (cR (cR (cR (cR (cR (bodyOf Tryd.f4))))))))))))))).wp Tryd.prog (nrmQ Q) ⟨#[x0, x1, x2, x3, x4, (Value.pointer (some ⟨gx, 0, none⟩)), x6, x7, x8, x9, x10, x11, x12, x13, (Value.pointer (some ⟨pa, 0, none⟩)), x15, x16, (Value.slice (some ⟨tb, 0, none⟩) n n), x18, x19, x20, (Value.pointer (some ⟨pb, 0, none⟩)), x22, x23, x24, x25, x26, x27, x28, x29, x30, x31, x32, x33, x34, x35, x36, x37, x38, x39, x40, x41, x42, x43, x44, x45, x46, x47, x48, x49, x50, x51, x52, x53, x54, x55, x56, x57, x58, x59, x60, x61, x62, x63, x64, x65, x66, x67, x68, x69, x70, x71, x72, x73, x74, x75, x76, x77, x78, x79, x80, x81, x82, x83, x84, x85, x86, x87, x88, x89, x90, x91, x92, x93, x94, x95, x96, x97, x98, x99, x100, x101, x102, x103, x104, x105, x106, x107, x108, x109, x110, x111, x112, x113, x114, x115, x116, x117, x118, x119, x120, x121, x122, x123, x124, x125, x126, x127, x128, x129, x130, x131, x132, x133, x134, x135, x136, x137, x138, x139, x140, x141, x142, x143, x144, x145, x146, x147, x148, x149, x150, x151, x152, x153, x154, x155, x156, x157, x158, x159, x160, x161, x162, x163, x164, x165, x166, x167, x168, x169, x170, x171, x172, x173, x174, x175, x176, x177, x178, x179, x180, x181, x182, x183, x184, x185, x186, x187, x188, x189, x190, x191, x192, x193], []⟩ W := by
  have HQ := hide' hQ
  have HGX := hide' (fun (V : World) (h : Below W.heap.size W V) => (h.block gx (ltS_of_block hgx)).trans hgx)
  have HA := hide' (fun (V : World) (h : Below W.heap.size W V) => (h.block pa (ltS_of_block hA)).trans hA)
  have HB := hide' (fun (V : World) (h : Below W.heap.size W V) => (h.block pb (ltS_of_block hB)).trans hB)
  have RA := hide' (fun (V : World) (h : Below W.heap.size W V) => ra.below h)
  have RB := hide' (fun (V : World) (h : Below W.heap.size W V) => rb.below h)
  have RT := hide' (fun (V : World) (h : Below W.heap.size W V) => rt.below h)
  have EQ := hide' he
  have BN := hide' h0
  have N10 := hide' n10
  clear hQ hgx hA hB ra rb rt he h0 n10
  simp only [cL, cR, bodyOf, Tryd.f4, Option.getD_some]
  go_wp2
  go_loopw [25] (fun iv V => ∃ (i : Nat), iv = .int .i64 (i : Int) ∧ i ≤ n ∧ Hid (Below W.heap.size W V)) (fun iv _ => n - (intOf iv).toNat)
  case atStart => exact ⟨0, rfl, by omega, hide' (Below.refl _ _)⟩
  case round =>
    obtain ⟨i, rfl, hi, BW⟩ := hrel
    have n10 := N10.out
    have y0 := cell_of_row wr _ 0 _ _ _ (HGX.out wr BW.out)
    simp at y0
    by_cases d : (i : Int) < (n : Int)
    · have hl : i < n := by omega
      have a1 := cell_of_row wr _ 1 _ _ _ (HA.out wr BW.out)
      have b1 := cell_of_row wr _ 1 _ _ _ (HB.out wr BW.out)
      simp at a1 b1
      have c1 := row_cell' (RA.out wr BW.out) hl
      have c2 := row_cell' (RB.out wr BW.out) hl
      have c3 := row_cell' (RT.out wr BW.out) hl
      have e := EQ.out i hl
      have bn := BN.out i hl
      obtain ⟨p, hp⟩ : ∃ p, ua i = p := ⟨_, rfl⟩
      obtain ⟨q, hq⟩ : ∃ q, ub i = q := ⟨_, rfl⟩
      obtain ⟨r, hr⟩ : ∃ r, v i = r := ⟨_, rfl⟩
      rw [hp, hq, hr] at e
      rw [hp] at bn c1
      rw [hq] at c2
      rw [hr] at c3
      have k1 : IntKind.i64.wrap p = p := wrap_fit ⟨by omega, by omega⟩
      have k2 : (p != p) = false := by simp
      have k3 : ((n : Int) != (n : Int)) = false := by simp
      have k4 : (0 : Int) ≤ (i : Int) := by omega
      clear hp hq hr bn
      go_upto_region 26 with fail
      go_region
      all_goals
        clear y0 a1 b1 c1 c2 c3 k1 k2 k3 k4 e
        have B4 := hide' BW.out.drew
        go_wp2
        exact ⟨⟨i + 1, by go_num, by omega, B4⟩, by simp [intOf]; omega⟩
    · obtain rfl : i = n := by omega
      go_wp2
      exact HQ.out _ _ _ _ _ _ _ _ _ _ _ _ _ _ _ _ _ _ _ _ _ _ _ _ _ _ _ _ _ _ _ _ _ _ _ _ _ _ _ _ wr BW.out
end Go.Proofs.YtpajdmhgonmgoaaDoor

