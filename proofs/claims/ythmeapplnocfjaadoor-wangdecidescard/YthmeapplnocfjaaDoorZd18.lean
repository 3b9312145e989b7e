/-
  What the last text of this claim leans on, part 18: Wt6, Wu3.
-/
import Derived.Test.YthmeapplnocfjaaDoorZd17
import Derived.Test.YthmeapplnocfjaaDoorZd11
import Derived.Test.YthmeapplnocfjaaDoorZd14
import Derived.Test.YthmeapplnocfjaaDoorZd15
namespace Go.Proofs.YthmeapplnocfjaaDoor
open Go.RowKit
set_option linter.unusedVariables false
set_option linter.unusedSimpArgs false
set_option maxRecDepth 100000 in
set_option maxHeartbeats 25600000 in
theorem closes_any (H : Nat) (st : Nat → List (Nat × Nat)) (sz : Nat → Nat) (oa : Nat → Option Addr) (oc : Nat → Nat) (sg dg : Nat) (w : World) (hS : StA w sg H st oa oc) (hD : RowW w dg H (fun r => ((sz r : Nat) : Int))) (h1 : 1 ≤ H) (h5 : H ≤ 5) (hz : ∀ r, sz r ≤ 8388608) (hp : ∀ r, r < H → ∀ p ∈ st r, p.1 < sz r ∧ p.2 < sz ((r + 1) % H)) :
    Calls Tryd.prog 35 #[.slice (some ⟨sg, 0, none⟩) H H, .slice (some ⟨dg, 0, none⟩) H H] w fun e w' => BoW (∃ i, i < sz 0 ∧ PtW st H i i) e ∧ Below w.heap.size w w' := by
  have HS := hide' (fun (V : World) (h : Below w.heap.size w V) => hS.below h)
  have HD := hide' (fun (V : World) (h : Below w.heap.size w V) => hD.keep h)
  have HZ := hide' hz
  have HP := hide' hp
  have sgl := lt_blockT hS.row
  have dgl := lt_blockT hD
  have z0 := hz 0
  have FW := hide' (fun (r : Nat) (V : World) (hV : Below w.heap.size w V) (hr : r < H) (ng : Nat) (f : Nat → Nat) (hR : RowU V ng (sz r) f) (hf : ∀ i, f i < 18446744073709551616) => follow_anyW (st r) (oa r) (st r).length (oc r) ng (sz r) (sz ((r + 1) % H)) f V ((hS.below hV).arg r hr) hR hf (by have := hz ((r + 1) % H); omega) (by have := hz r; omega) (hp r hr))
  have MK := hide' (fun (V : World) => run_make_row' (P := Tryd.prog) 109 110 (.int .u64 0) 8 Tryd.underlying109 infoU rfl .i64 .i64 (sz 0) (by omega) (by omega) V)
  clear hS hD hz hp
  have H0 : (0 : Int) < (H : Int) := by omega
  go_enter Tryd.func35, Tryd.ntmps35
  go_wp2
  go_loopw [5, 6, 7, 8, 9, 10] (fun fv _ _ _ _ _ wr => ∃ m : Nat, fv = .int .i64 ((m * 64 : Nat) : Int) ∧ m ≤ 131072 ∧ Hid (∀ i, i < m * 64 → i < sz 0 → ¬ PtW st H i i) ∧ Hid (Below w.heap.size w wr)) (fun fv _ _ _ _ _ _ => 8388672 - (intOf fv).toNat)
  case atStart => exact ⟨0, rfl, by omega, hide' (fun i h => by omega), hide' (Below.refl _ _)⟩
  case round =>
    obtain ⟨m, rfl, hm, NO, BW⟩ := hrel
    obtain ⟨fr, hfr⟩ : ∃ fr, m * 64 = fr := ⟨_, rfl⟩
    rw [hfr] at NO ⊢
    have HFR := hide' hfr
    have frl : fr ≤ 8388608 := by omega
    clear hfr
    have d0 := (HD.out wr BW.out).cell (k := 0) (by omega)
    obtain ⟨s0, hs0⟩ : ∃ s0, sz 0 = s0 := ⟨_, rfl⟩
    have mk := MK.out wr
    rw [hs0] at d0 z0 NO mk
    by_cases c : (fr : Int) < (s0 : Int)
    · obtain ⟨tt, htt⟩ : ∃ tt, min (fr + 64) s0 = tt := ⟨_, rfl⟩
      have t1 : tt ≤ fr + 64 := by omega
      have t2 : tt ≤ s0 := by omega
      have t3 : fr ≤ tt := by omega
      have t4 : fr + 64 ≤ tt ∨ s0 ≤ tt := by omega
      have mn : min ((fr : Int) + 64) (s0 : Int) = (tt : Int) := by omega
      obtain ⟨w1, hw1⟩ : ∃ w1, wr.alloc (.cells (madeCells #[.int .u64 0] s0) 110) = w1 := ⟨_, rfl⟩
      rw [hw1] at mk
      have K1 := (show Below wr.heap.size wr w1 by rw [← hw1]; exact (Below.refl _ _).alloc (Nat.le_refl _) _)
      have R1 := hide' (show RowU w1 wr.heap.size s0 (clF fr fr) by rw [← hw1, made_arV, clF_none]; exact heap_alloc_new _ _)
      have B1 := hide' (BW.out.trans (K1.mono BW.out.size))
      obtain ⟨ng, hng⟩ : ∃ ng, wr.heap.size = ng := ⟨_, rfl⟩
      have NG := hide' (show w.heap.size ≤ ng by rw [← hng]; exact BW.out.size)
      rw [hng] at mk R1
      have HS0 := hide' hs0
      clear hw1 htt K1 hs0
      go_upto_region 5 with (simp only [mn])
      go_wp2
      clear mk d0
      obtain ⟨VA, rfl⟩ : ∃ VV, VV = wr := ⟨_, rfl⟩
      go_loopw [8] (fun iv wr => ∃ cur : Nat, iv = .int .i64 (cur : Int) ∧ fr ≤ cur ∧ cur ≤ tt ∧ Hid (RowU wr ng s0 (clF fr cur)) ∧ Hid (Below w.heap.size w wr)) (fun iv _ => tt - (intOf iv).toNat)
      case atStart => exact ⟨fr, rfl, Nat.le_refl _, by omega, R1, B1⟩
      case round =>
        clear R1 B1
        obtain ⟨cur, rfl, hc1, hc2, RC, BC⟩ := hrel
        by_cases e : (cur : Int) < (tt : Int)
        · have cs : cur < s0 := by omega
          have rc := RC.out.cell cs
          have fz := frozen_of_row wr _ cur _ _ RC.out
          obtain ⟨q, hq⟩ : ∃ q, cur - fr = q := ⟨_, rfl⟩
          have eq : (cur : Int) - (fr : Int) = (q : Int) := by omega
          have q0 : (0 : Int) ≤ (q : Int) := by omega
          have q64 : (q : Int) ≤ 64 := by omega
          have sh := shl_one (q := q) (by omega)
          have R2 := hide' (RC.out.set cur (2 ^ q))
          rw [show (fun i => if i = cur then 2 ^ q else clF fr cur i) = clF fr (cur + 1) by rw [← hq]; exact clF_set hc1] at R2
          have B2 := hide' (BC.out.setCell (p := ⟨ng, cur, none⟩) NG.out (.int .u64 ((2 ^ q : Nat) : Int)))
          have cur0 : (0 : Int) ≤ (cur : Int) := by omega
          have curs : (cur : Int) < (s0 : Int) := by omega
          obtain ⟨pq, hpq⟩ : ∃ pq, 2 ^ q = pq := ⟨_, rfl⟩
          rw [hpq] at sh R2 B2
          clear hpq hq
          go_wp2
          exact ⟨⟨cur + 1, by go_num, by omega, by omega, R2, B2⟩, by simp [intOf]; omega⟩
        · obtain rfl : cur = tt := by omega
          have CS := hide' (clF_start st (fr := fr) (tt := cur) (by omega))
          have RC' := hide' (show RowU wr ng (sz 0) (clF fr cur) by rw [HS0.out]; exact RC.out)
          have zr : (0 : Nat) % H = 0 := Nat.zero_mod H
          go_wp2
          obtain ⟨VB, rfl⟩ : ∃ VV, VV = wr := ⟨_, rfl⟩
          go_loopw [7, 9, 43] (fun nv _ iv wr => ∃ (r g : Nat) (f : Nat → Nat), nv = .slice (some ⟨g, 0, none⟩) (sz (r % H)) (sz (r % H)) ∧ iv = .int .i64 (r : Int) ∧ r ≤ H ∧ Hid (ClS st fr cur r f) ∧ Hid (RowU wr g (sz (r % H)) f) ∧ Hid (w.heap.size ≤ g) ∧ Hid (Below w.heap.size w wr)) (fun _ _ iv _ => H - (intOf iv).toNat)
          case atStart => exact ⟨0, ng, clF fr cur, by rw [zr, HS0.out], rfl, by omega, CS, by rw [zr]; exact RC', NG, BC⟩
          case round =>
            clear CS RC' RC zr
            obtain ⟨r, g, f, rfl, rfl, hr, CS, RG, GG, BR⟩ := hrel
            by_cases y : (r : Int) < (H : Int)
            · have rH : r < H := by omega
              have re : r % H = r := Nat.mod_eq_of_lt rH
              rw [re] at RG ⊢
              obtain ⟨r', hr'⟩ : ∃ r', (r + 1) % H = r' := ⟨_, rfl⟩
              have r'H : r' < H := by rw [← hr']; exact Nat.mod_lt _ (by omega)
              have FF := hide' (fun (V : World) (hV : Below wr.heap.size wr V) => FW.out r V (BR.out.trans (hV.mono BR.out.size)) rH g f (RG.out.below hV) (fun i => (CS.out i).1))
              rw [hr'] at FF
              have NX := hide' (fun (f' : Nat → Nat) (h : FolB (st r) f f') => CS.out.next h)
              have sc := (HS.out wr BR.out).cell rH
              have dc := (HD.out wr BR.out).cell r'H
              have rm : ((r : Int) + 1).tmod (H : Int) = (r' : Int) := by rw [← hr']; exact (Int.ofNat_tmod (r + 1) H).symm
              obtain ⟨sr, hsr⟩ : ∃ sr, sz r = sr := ⟨_, rfl⟩
              obtain ⟨sn, hsn⟩ : ∃ sn, sz r' = sn := ⟨_, rfl⟩
              obtain ⟨ol, hol⟩ : ∃ ol, (st r).length = ol := ⟨_, rfl⟩
              obtain ⟨oar, hoar⟩ : ∃ x, oa r = x := ⟨_, rfl⟩
              obtain ⟨ocr, hocr⟩ : ∃ x, oc r = x := ⟨_, rfl⟩
              rw [hsr, hsn, hol, hoar, hocr] at FF
              rw [hol, hoar, hocr] at sc
              rw [hsn] at dc
              rw [hsr]
              have r0 : (0 : Int) ≤ (r : Int) := by omega
              have r'0 : (0 : Int) ≤ (r' : Int) := by omega
              have r'l : (r' : Int) < (H : Int) := by omega
              have w1' : IntKind.i64.wrap ((r : Int) + 1) = (r : Int) + 1 := by simp [IntKind.wrap, IntKind.signed, IntKind.bits]; omega
              have wm : IntKind.i64.wrap (((r : Int) + 1).tmod (H : Int)) = (r' : Int) := by rw [rm]; simp [IntKind.wrap, IntKind.signed, IntKind.bits]; omega
              have hb : ((H : Int) == 0) = false := by simp; omega
              have E' := hide' (show sz ((r + 1) % H) = sn by rw [hr', hsn])
              clear hsr hsn hol hoar hocr hr' re CS RG
              go_upto_region 13 with fail
              go_region_with (go_at_call 44; refine (FF.out _ (by repeat (first | exact Below.refl _ _ | refine Below.drew ?_))).mono ?_; rintro e5 w5 ⟨g5, f5, rfl, R5, F5, G5, B5⟩)
              all_goals (
                have BX := hide' (BR.out.drew.trans (B5.out.mono BR.out.size))
                go_wp2
                exact ⟨⟨r + 1, g5, f5, by rw [E'.out], by go_num, by omega, hide' (NX.out f5 F5.out), by rw [E'.out]; exact R5, hide' (Nat.le_trans BR.out.size G5), BX⟩, by simp [intOf]; omega⟩)
            · obtain rfl : r = H := by omega
              rw [Nat.mod_self, HS0.out] at RG
              rw [Nat.mod_self, HS0.out]
              have T4 := hide' t4
              clear FW MK HP HS HD mn t4
              go_wp2
              obtain ⟨VC, rfl⟩ : ∃ VV, VV = wr := ⟨_, rfl⟩
              go_loopw [10] (fun iv wr => ∃ i : Nat, iv = .int .i64 (i : Int) ∧ fr ≤ i ∧ i ≤ cur ∧ Hid (∀ k, fr ≤ k → k < i → ¬ PtW st r k k) ∧ wr = VC) (fun iv _ => cur - (intOf iv).toNat)
              case atStart => exact ⟨fr, rfl, Nat.le_refl _, by omega, hide' (fun k a b => by omega), rfl⟩
              case round =>
                obtain ⟨i, rfl, hi1, hi2, NK, rfl⟩ := hrel
                by_cases x : (i : Int) < (cur : Int)
                · have is : i < s0 := by omega
                  have rc := RG.out.cell is
                  have xl := (CS.out i).1
                  have AE := hide' (CS.out.at_end hi1 (show i < cur by omega))
                  obtain ⟨q, hq⟩ : ∃ q, i - fr = q := ⟨_, rfl⟩
                  rw [hq] at AE
                  have eq : (i : Int) - (fr : Int) = (q : Int) := by omega
                  have q0 : (0 : Int) ≤ (q : Int) := by omega
                  have q64 : (q : Int) ≤ 64 := by omega
                  have b1 := bit_one (q := q) xl
                  have dv : ((f i : Nat) : Int) / 2 ^ q = ((f i / 2 ^ q : Nat) : Int) := by push_cast; rfl
                  obtain ⟨y', hy'⟩ : ∃ y', f i / 2 ^ q = y' := ⟨_, rfl⟩
                  rw [hy'] at b1 dv
                  have i0 : (0 : Int) ≤ (i : Int) := by omega
                  have isl : (i : Int) < (s0 : Int) := by omega
                  by_cases tb : (f i).testBit q = true
                  · rw [if_pos tb] at b1
                    have YES := hide' (show ∃ k, k < s0 ∧ PtW st r k k from ⟨i, is, AE.out.1 tb⟩)
                    obtain ⟨fx, hfx⟩ : ∃ fx, f i = fx := ⟨_, rfl⟩
                    rw [hfx] at rc dv
                    clear tb hq hy' xl hfx
                    go_wp2
                    go_ret
                    exact ⟨⟨true, rfl, ⟨fun _ => by first | exact YES.out | (rw [HS0.out]; exact YES.out), fun _ => rfl⟩⟩, BR.out⟩
                  · rw [if_neg tb] at b1
                    have NN := hide' (show ∀ k, fr ≤ k → k < i + 1 → ¬ PtW st r k k from fun k a b p => by
                      by_cases e : k = i
                      · subst e; exact tb (AE.out.2 p)
                      · exact NK.out k a (by omega) p)
                    obtain ⟨fx, hfx⟩ : ∃ fx, f i = fx := ⟨_, rfl⟩
                    rw [hfx] at rc dv
                    clear tb hq hy' xl hfx
                    go_wp2
                    exact ⟨⟨i + 1, by go_num, by omega, by omega, NN, trivial⟩, by simp [intOf]; omega⟩
                · obtain rfl : i = cur := by omega
                  have fe := HFR.out
                  have NO2 := hide' (show ∀ k, k < (m + 1) * 64 → k < s0 → ¬ PtW st r k k from fun k a b => by
                    by_cases e : k < fr
                    · exact NO.out k e b
                    · exact NK.out k (by omega) (by have := T4.out; omega))
                  go_wp2
                  exact ⟨⟨m + 1, by rw [Nat.succ_mul, fe]; go_num, by omega, by rw [HS0.out]; exact NO2, BR⟩, by simp [intOf]; omega⟩
    · have FIN := hide' (show ¬ ∃ i, i < s0 ∧ PtW st H i i from fun ⟨i, h1, h2⟩ => NO.out i (by omega) h1 h2)
      go_wp2
      go_ret
      exact ⟨⟨false, rfl, ⟨fun h => (by cases h), fun h => absurd (by first | exact h | (rw [hs0] at h; exact h)) FIN.out⟩⟩, BW.out⟩
end Go.Proofs.YthmeapplnocfjaaDoor

namespace Go.Proofs.YthmeapplnocfjaaDoor
open Go.RowKit
set_option linter.unusedVariables false
set_option linter.unusedSimpArgs false
theorem op_same {b b' : BdW} (hW : b'.W = b.W) (hH : b'.H = b.H) (hr : b'.ring = b.ring) (ht : ∀ k, k < 16 → b'.t k = b.t k) (hm : ∀ r c, r < b.H → c < b.W → b'.may r c = b.may r c) (h16 : ∀ r c, b.may r c < 65536) (h : OpB b) : OpB b' := by
  obtain ⟨S, h1, h2⟩ := h
  have s16 : ∀ r c, r < b.H → c < b.W → S r c < 16 := fun r c a d => bit_lt (h16 r c) (h1 r c a d)
  have hi : ∀ r c k, k < 16 → inW b' r c k = inW b r c k := fun r c k hk => by unfold inW; rw [hW, hH, hr, ht k hk]
  refine ⟨S, fun r c a d => ?_, fun r c a d => ?_⟩
  · rw [hH] at a; rw [hW] at d
    rw [hm r c a d]; exact h1 r c a d
  · rw [hH] at a; rw [hW] at d
    rw [hW, hH]
    have l1 : (c + 1) % b.W < b.W := Nat.mod_lt _ (by omega)
    have l2 : (r + 1) % b.H < b.H := Nat.mod_lt _ (by omega)
    rw [hi _ _ _ (s16 r c a d), hi _ _ _ (s16 r _ a l1), hi _ _ _ (s16 _ c l2 d)]
    exact h2 r c a d
theorem tn_ok {b : BdW} (h : BokW b) : BokW (tnM b 5 0) := ⟨h.h1, h.h5, h.w1, h.w5, fun k => by
    have := col_tr h.col k
    by_cases q : k < 16
    · have e : (tnM b 5 0).t k = (trB b).t k := if_pos q
      rw [e]; exact this
    · have e : (tnM b 5 0).t k = tlz := if_neg q
      rw [e]
      exact ⟨⟨by decide, by decide⟩, ⟨by decide, by decide⟩, ⟨by decide, by decide⟩, by decide, by decide⟩, fun r c => by
    show (if c < 5 ∨ (c = 5 ∧ r < 0) then b.may c r else 0) < 65536
    split
    · exact h.may c r
    · omega⟩
theorem tn_op {b : BdW} (h : BokW b) : OpB (tnM b 5 0) ↔ OpB b := by
  have w5 := h.w5
  have h5 := h.h5
  rw [← op_tr b]
  constructor
  · intro q
    exact op_same (b := tnM b 5 0) (b' := trB b) rfl rfl rfl (fun k hk => (if_pos hk).symm) (fun r c a d => by
      have d' : c < b.H := d
      exact (if_pos (Or.inl (by omega))).symm) (tn_ok h).may q
  · intro q
    exact op_same (b := trB b) (b' := tnM b 5 0) rfl rfl rfl (fun k hk => if_pos hk) (fun r c a d => by
      have d' : c < b.H := d
      exact if_pos (Or.inl (by omega))) h.tr.may q
/-- Blocks from M on are as they were. -/
def KpM (M : Nat) (w V : World) : Prop := w.heap.size ≤ V.heap.size ∧ ∀ p, M ≤ p → p < w.heap.size → V.heap[p]? = w.heap[p]?
theorem KpM.setCell {M : Nat} (w : World) {a : Addr} (v : Value) (h : a.block < M) : KpM M w (w.setCell a v) := ⟨by simp, fun p hp _ => heap_setCell_other _ _ _ _ (by omega)⟩
theorem ArgL.keepM {M : Nat} {w V : World} {ls : List LkW} {a : Option Addr} {n : Nat} (h : ArgL w ls a n) (lo : ∀ g, a = some ⟨g, 0, none⟩ → M ≤ g) (k : KpM M w V) : ArgL V ls a n :=
  ⟨h.len, h.max, fun i hi => by
    obtain ⟨g, e, hg, hc⟩ := h.cells i hi
    exact ⟨g, e, Nat.lt_of_lt_of_le hg k.1, fun j hj => (World.cell?_of_block (w := w) (a := ⟨g, i * 10 + j, none⟩) (k.2 g (lo g e) hg)).trans (hc j hj)⟩⟩
theorem ArgQ.keepM {M : Nat} {w V : World} {ls : List (Nat × Nat)} {a : Option Addr} {n : Nat} (h : ArgQ w ls a n) (lo : ∀ g, a = some ⟨g, 0, none⟩ → M ≤ g) (k : KpM M w V) : ArgQ V ls a n :=
  ⟨h.len, h.max, fun i hi => by
    obtain ⟨g, e, hg, h1, h2⟩ := h.cells i hi
    exact ⟨g, e, Nat.lt_of_lt_of_le hg k.1, (World.cell?_of_block (w := w) (a := ⟨g, i * 2, none⟩) (k.2 g (lo g e) hg)).trans h1, (World.cell?_of_block (w := w) (a := ⟨g, i * 2 + 1, none⟩) (k.2 g (lo g e) hg)).trans h2⟩⟩
theorem MpB.keepM {M : Nat} {w V : World} {mb : Nat} {acc : List (List Nat)} (h : MpB w mb acc) (lo : M ≤ mb) (k : KpM M w V) : MpB V mb acc := h.block (k.2 mb lo h.lt)
def upF {α : Type} (f : Nat → α) (k : Nat) (x : α) : Nat → α := fun i => if i = k then x else f i
/-- While rows are looked at: looks of k1 rows, numbers of k2, sides of k3. -/
structure OpS (w wr : World) (p : Nat) (B : BdW) (lg ng sg : Nat) (oa : Nat → Option Addr) (oc mb : Nat → Nat) (k1 k2 k3 : Nat) : Prop where
  below : Below w.heap.size w wr
  brd : BrdA wr p B
  wlg : w.heap.size ≤ lg
  plg : p < lg
  lgng : lg < ng
  ngsg : ng < sg
  rl : wr.heap[lg]? = some (.cells (arV B.H fun r => if r < k1 then .slice (oa r) (lkL B r).length (oc r) else .slice none 0 0) 74 (0, 0))
  rn : wr.heap[ng]? = some (.cells (arV B.H fun r => if r < k2 then .map (some (mb r)) else .map none) 76 (0, 0))
  rs : wr.heap[sg]? = some (.cells (arV B.H fun r => .int .i64 (if r < k3 then (((sdL B r).length : Nat) : Int) else 0)) 3 (0, 0))
  al : ∀ r, r < k1 → ArgL wr (lkL B r) (oa r) (lkL B r).length ∧ ∀ g, oa r = some ⟨g, 0, none⟩ → sg < g
  am : ∀ r, r < k2 → MpB wr (mb r) (sdL B r) ∧ sg < mb r
theorem OpS.keep {w wr V : World} {p : Nat} {B : BdW} {lg ng sg : Nat} {oa : Nat → Option Addr} {oc mb : Nat → Nat} {k1 k2 k3 : Nat} (h : OpS w wr p B lg ng sg oa oc mb k1 k2 k3) (k : Below wr.heap.size wr V) : OpS w V p B lg ng sg oa oc mb k1 k2 k3 :=
  ⟨h.below.trans (k.mono h.below.size), h.brd.below k, h.wlg, h.plg, h.lgng, h.ngsg, (k.block _ (lt_blockT h.rl)).trans h.rl, (k.block _ (lt_blockT h.rn)).trans h.rn, (k.block _ (lt_blockT h.rs)).trans h.rs,
   fun r hr => ⟨(h.al r hr).1.below k, (h.al r hr).2⟩, fun r hr => ⟨(h.am r hr).1.below k, (h.am r hr).2⟩⟩
theorem OpS.putL {w wr : World} {p : Nat} {B : BdW} {lg ng sg : Nat} {oa : Nat → Option Addr} {oc mb : Nat → Nat} {k k2 k3 : Nat} (h : OpS w wr p B lg ng sg oa oc mb k k2 k3) {a : Option Addr} {c : Nat} (ha : ArgL wr (lkL B k) a (lkL B k).length) (hl : ∀ g, a = some ⟨g, 0, none⟩ → sg < g) : OpS w (wr.setCell ⟨lg, k, none⟩ (.slice a (lkL B k).length c)) p B lg ng sg (upF oa k a) (upF oc k c) mb (k + 1) k2 k3 := by
  have hn1 := h.lgng
  have hn2 := h.ngsg
  have hp := h.plg
  have km : KpM (sg + 1) wr (wr.setCell ⟨lg, k, none⟩ (.slice a (lkL B k).length c)) := KpM.setCell _ _ (by show lg < sg + 1; omega)
  refine ⟨h.below.setCell h.wlg _, ?_, h.wlg, h.plg, h.lgng, h.ngsg, ?_, ?_, ?_, fun r hr => ?_, fun r hr => ⟨(h.am r hr).1.keepM (M := sg + 1) (h.am r hr).2 km, (h.am r hr).2⟩⟩
  · unfold BrdA
    rw [heap_setCell_other _ _ _ _ (by show p ≠ lg; omega)]; exact h.brd
  · rw [heap_setCell_same _ _ _ _ _ _ h.rl, arV_set]
    congr 2
    refine arV_ext fun i _ => ?_
    unfold upF
    by_cases e : i = k
    · subst e; rw [if_pos rfl, if_pos (by omega), if_pos rfl, if_pos rfl]
    · rw [if_neg e]
      by_cases q : i < k
      · rw [if_pos q, if_pos (by omega), if_neg e, if_neg e]
      · rw [if_neg q, if_neg (by omega)]
  · rw [heap_setCell_other _ _ _ _ (by show ng ≠ lg; omega)]; exact h.rn
  · rw [heap_setCell_other _ _ _ _ (by show sg ≠ lg; omega)]; exact h.rs
  · unfold upF
    by_cases e : r = k
    · subst e; rw [if_pos rfl]; exact ⟨ha.keepM (M := sg + 1) hl km, hl⟩
    · rw [if_neg e]
      have := h.al r (by omega)
      exact ⟨this.1.keepM (M := sg + 1) this.2 km, this.2⟩
theorem OpS.putN {w wr : World} {p : Nat} {B : BdW} {lg ng sg : Nat} {oa : Nat → Option Addr} {oc mb : Nat → Nat} {k1 k k3 : Nat} (h : OpS w wr p B lg ng sg oa oc mb k1 k k3) {m : Nat} (hm : MpB wr m (sdL B k)) (hl : sg < m) : OpS w (wr.setCell ⟨ng, k, none⟩ (.map (some m))) p B lg ng sg oa oc (upF mb k m) k1 (k + 1) k3 := by
  have hn1 := h.lgng
  have hn2 := h.ngsg
  have hp := h.plg
  have hw := h.wlg
  have km : KpM (sg + 1) wr (wr.setCell ⟨ng, k, none⟩ (.map (some m))) := KpM.setCell _ _ (by show ng < sg + 1; omega)
  refine ⟨h.below.setCell (by show w.heap.size ≤ ng; omega) _, ?_, h.wlg, h.plg, h.lgng, h.ngsg, ?_, ?_, ?_, fun r hr => ⟨(h.al r hr).1.keepM (M := sg + 1) (h.al r hr).2 km, (h.al r hr).2⟩, fun r hr => ?_⟩
  · unfold BrdA
    rw [heap_setCell_other _ _ _ _ (by show p ≠ ng; omega)]; exact h.brd
  · rw [heap_setCell_other _ _ _ _ (by show lg ≠ ng; omega)]; exact h.rl
  · rw [heap_setCell_same _ _ _ _ _ _ h.rn, arV_set]
    congr 2
    refine arV_ext fun i _ => ?_
    unfold upF
    by_cases e : i = k
    · subst e; rw [if_pos rfl, if_pos (by omega), if_pos rfl]
    · rw [if_neg e]
      by_cases q : i < k
      · rw [if_pos q, if_pos (by omega), if_neg e]
      · rw [if_neg q, if_neg (by omega)]
  · rw [heap_setCell_other _ _ _ _ (by show sg ≠ ng; omega)]; exact h.rs
  · unfold upF
    by_cases e : r = k
    · subst e; rw [if_pos rfl]; exact ⟨hm.keepM (M := sg + 1) hl km, hl⟩
    · rw [if_neg e]
      have := h.am r (by omega)
      exact ⟨this.1.keepM (M := sg + 1) this.2 km, this.2⟩
theorem OpS.putS {w wr : World} {p : Nat} {B : BdW} {lg ng sg : Nat} {oa : Nat → Option Addr} {oc mb : Nat → Nat} {k1 k2 k : Nat} (h : OpS w wr p B lg ng sg oa oc mb k1 k2 k) : OpS w (wr.setCell ⟨sg, k, none⟩ (.int .i64 (((sdL B k).length : Nat) : Int))) p B lg ng sg oa oc mb k1 k2 (k + 1) := by
  have hn1 := h.lgng
  have hn2 := h.ngsg
  have hp := h.plg
  have hw := h.wlg
  have km : KpM (sg + 1) wr (wr.setCell ⟨sg, k, none⟩ (.int .i64 (((sdL B k).length : Nat) : Int))) := KpM.setCell _ _ (by show sg < sg + 1; omega)
  refine ⟨h.below.setCell (by show w.heap.size ≤ sg; omega) _, ?_, h.wlg, h.plg, h.lgng, h.ngsg, ?_, ?_, ?_, fun r hr => ⟨(h.al r hr).1.keepM (M := sg + 1) (h.al r hr).2 km, (h.al r hr).2⟩, fun r hr => ⟨(h.am r hr).1.keepM (M := sg + 1) (h.am r hr).2 km, (h.am r hr).2⟩⟩
  · unfold BrdA
    rw [heap_setCell_other _ _ _ _ (by show p ≠ sg; omega)]; exact h.brd
  · rw [heap_setCell_other _ _ _ _ (by show lg ≠ sg; omega)]; exact h.rl
  · rw [heap_setCell_other _ _ _ _ (by show ng ≠ sg; omega)]; exact h.rn
  · rw [heap_setCell_same _ _ _ _ _ _ h.rs, arV_set]
    congr 2
    refine arV_ext fun i _ => ?_
    by_cases e : i = k
    · subst e; rw [if_pos rfl, if_pos (by omega)]
    · rw [if_neg e]
      by_cases q : i < k
      · rw [if_pos q, if_pos (by omega)]
      · rw [if_neg q, if_neg (by omega)]
theorem OpS.cellL {w wr : World} {p : Nat} {B : BdW} {lg ng sg : Nat} {oa : Nat → Option Addr} {oc mb : Nat → Nat} {k1 k2 k3 : Nat} (h : OpS w wr p B lg ng sg oa oc mb k1 k2 k3) {r : Nat} (hr : r < B.H) : wr.cell? ⟨lg, r, none⟩ = some (if r < k1 then .slice (oa r) (lkL B r).length (oc r) else .slice none 0 0) := by rw [cell_of_row wr _ _ _ _ _ h.rl, arV_get _ hr]
theorem OpS.cellN {w wr : World} {p : Nat} {B : BdW} {lg ng sg : Nat} {oa : Nat → Option Addr} {oc mb : Nat → Nat} {k1 k2 k3 : Nat} (h : OpS w wr p B lg ng sg oa oc mb k1 k2 k3) {r : Nat} (hr : r < B.H) : wr.cell? ⟨ng, r, none⟩ = some (if r < k2 then .map (some (mb r)) else .map none) := by rw [cell_of_row wr _ _ _ _ _ h.rn, arV_get _ hr]
theorem OpS.cellS {w wr : World} {p : Nat} {B : BdW} {lg ng sg : Nat} {oa : Nat → Option Addr} {oc mb : Nat → Nat} {k1 k2 k3 : Nat} (h : OpS w wr p B lg ng sg oa oc mb k1 k2 k3) {r : Nat} (hr : r < B.H) : wr.cell? ⟨sg, r, none⟩ = some (.int .i64 (if r < k3 then (((sdL B r).length : Nat) : Int) else 0)) := by rw [cell_of_row wr _ _ _ _ _ h.rs, arV_get _ hr]
theorem made_any (z : Value) (n : Nat) : madeCells #[z] n = arV n (fun _ => z) := by
  apply Array.ext
  · rw [size_madeCells]; simp [arV]
  · intro i h1 h2
    simp [madeCells, arV, Nat.mod_one]
theorem info_llW : (Tryd.prog.info? 74).map (fun i => (i.zero, i.size, i.bytes)) = some (some (.slice none 0 0), 1, 24) := by kernel_rfl
theorem info_mmW : (Tryd.prog.info? 76).map (fun i => (i.zero, i.size, i.bytes)) = some (some (.map none), 1, 8) := by kernel_rfl
theorem info_ssW : (Tryd.prog.info? 79).map (fun i => (i.zero, i.size, i.bytes)) = some (some (.slice none 0 0), 1, 24) := by kernel_rfl
end Go.Proofs.YthmeapplnocfjaaDoor

