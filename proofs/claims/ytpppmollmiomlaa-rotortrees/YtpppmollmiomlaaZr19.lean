/-
  What the last text of this claim leans on, part 19: LawRt, OpenRo.
-/
import Derived.Test.YtpppmollmiomlaaZr18
import Derived.Test.YtpppmollmiomlaaZr2
import Derived.Test.YtpppmollmiomlaaZr3
import Derived.Test.YtpppmollmiomlaaRows
import Derived.WalkKit
import Derived.ProofKit
import Derived.OpenShut
import Derived.ChangeSame
import Derived.ChangeSlices
import Derived.ChangeVars
import Derived.RowKit
import Derived.Carry
namespace Go.Proofs.Ytpppmollmiomlaa
open Go.RowKit
set_option linter.unusedVariables false
set_option linter.unusedSimpArgs false
def TrueOut (w : World) (e : Ending) (w' : World) : Prop := e = .returned (.bool true) ∧ Below w.heap.size w w'
set_option maxRecDepth 100000 in
set_option maxHeartbeats 12800000 in
theorem law_trees_all (P : Int) (xs : List EgT) (ea : Option Addr) (n c : Nat) (s : Int) (one : List Int) (oa : Option Addr) (on oc : Nat) (two : List Int) (ta : Option Addr) (tn tc : Nat) (pl N : Int) (w : World) (hE : ArgE w xs ea n c) (hO : ArgP w one oa on oc) (hT : ArgP w two ta tn tc) :
    Calls Try.prog 4 #[.agg #[.int .i64 P, .slice ea n c], .int .i64 s, .slice oa on oc, .slice ta tn tc, .int .i64 pl, .int .i64 N] w (TrueOut w) := by
  obtain ⟨w1, hw1⟩ : ∃ w1, w.alloc (.cells #[.int .i64 P, .slice ea n c] 24) = w1 := ⟨_, rfl⟩
  have HW1 := hide' hw1
  have B1 := hide' (show Below w.heap.size w w1 by rw [← hw1]; exact (Below.refl _ _).alloc (Nat.le_refl _) _)
  have R1 := hide' (show w1.heap[w.heap.size]? = some (.cells #[.int .i64 P, .slice ea n c] 24 (0, 0)) by rw [← hw1]; exact heap_alloc_new _ _)
  have HE := hide' (fun (V : World) (h : Below w.heap.size w V) => hE.below h)
  have HO := hide' (fun (V : World) (h : Below w.heap.size w V) => hO.below h)
  have HT := hide' (fun (V : World) (h : Below w.heap.size w V) => hT.below h)
  have RW := hide' (fun (V : World) (h : Below w1.heap.size w1 V) => (h.block _ (ltS_of_block R1.out)).trans R1.out)
  clear hw1 hE hO hT
  go_enter Try.func4, Try.ntmps4
  go_upto_region 1 with fail
  rw [HW1.out]
  go_upto_region 2 with fail
  obtain ⟨eb, heb⟩ : ∃ eb, w1.heap.size = eb := ⟨_, rfl⟩
  obtain ⟨w2, hw2⟩ : ∃ w2, (w1.alloc (.cells #[.int .i64 0, .int .i64 1, .int .i64 2] 27)).alloc (.cells #[.int .i64 2, .slice (some ⟨eb, 0, none⟩) 1 1] 24) = w2 := ⟨_, rfl⟩
  have E2 := hide' (show w2.heap[eb]? = some (.cells #[.int .i64 0, .int .i64 1, .int .i64 2] 27 (0, 0)) by
    rw [← hw2, heap_alloc_old _ _ (by simp; omega), ← heb]
    exact heap_alloc_new _ _)
  have G2 := hide' (show w2.heap[eb + 1]? = some (.cells #[.int .i64 2, .slice (some ⟨eb, 0, none⟩) 1 1] 24 (0, 0)) by
    rw [← hw2, ← heb]
    have := heap_alloc_new (w1.alloc (.cells #[.int .i64 0, .int .i64 1, .int .i64 2] 27)) (.cells #[.int .i64 2, .slice (some ⟨w1.heap.size, 0, none⟩) 1 1] 24)
    simpa using this)
  have B2 := hide' (show Below w1.heap.size w1 w2 by rw [← hw2]; exact ((Below.refl _ _).alloc (Nat.le_refl _) _).alloc (by simp) _)
  rw [heb, hw2]
  clear heb hw2
  have y0 := cell_of_row w2 _ 0 _ _ _ G2.out
  have y1 := cell_of_row w2 _ 1 _ _ _ G2.out
  simp at y0 y1
  obtain ⟨w3, hw3⟩ : ∃ w3, w2.alloc (.cells #[.int .i64 0, .int .i64 1] 3) = w3 := ⟨_, rfl⟩
  have A3 := hide' (show ArgP w3 [0, 1] (some ⟨w2.heap.size, 0, none⟩) 2 2 by rw [← hw3]; exact arg_two (heap_alloc_new _ _))
  have B3 := hide' (show Below w2.heap.size w2 w3 by rw [← hw3]; exact (Below.refl _ _).alloc (Nat.le_refl _) _)
  have X3 := hide' (show ArgE w3 twoE (some ⟨eb, 0, none⟩) 1 1 from argE_one ((B3.out.block _ (ltS_of_block E2.out)).trans E2.out))
  have HW3 := hide' hw3
  have TR := hide' (Tree_any 2 twoE (some ⟨eb, 0, none⟩) 1 1 0 [0, 1] (some ⟨w2.heap.size, 0, none⟩) 2 2 w3 X3.out A3.out)
  clear hw3
  go_wp2_with fail
  rw [HW3.out]
  refine TR.out.mono ?_
  rintro e w4 ⟨f, hf, b4, h⟩
  obtain rfl := hf.only (two_sg 1 (by omega) (by omega))
  rcases h with ⟨h0, _⟩ | ⟨_, Q0, t0, z, hQ0, ht0, -, -, rfl, hz⟩
  · exact absurd rfl h0
  have zt : z = true := by
    rw [hz]
    have a : Q0 = 2 := by omega
    have b : t0 = 0 := by omega
    subst a
    subst b
    exact two_tree
  subst zt
  have B4 := hide' (B2.out.trans ((B3.out.trans (b4.mono B3.out.size)).mono B2.out.size))
  clear hf b4 hQ0 ht0 hz y0 y1
  have y0 := cell_of_row w4 _ 0 _ _ _ (RW.out w4 B4.out)
  have y1 := cell_of_row w4 _ 1 _ _ _ (RW.out w4 B4.out)
  simp at y0 y1
  have F4 := hide' (B1.out.trans (B4.out.mono B1.out.size))
  have T1 := hide' (Tree_any P xs ea n c s one oa on oc w4 (HE.out _ F4.out) (HO.out _ F4.out))
  go_wp2_with fail
  refine T1.out.mono ?_
  rintro e w5 ⟨f1, hf1, b5, h1⟩
  have HF1 := hide' hf1
  have B5 := hide' (B4.out.trans (b5.mono B4.out.size))
  have F5' := hide' (B1.out.trans (B5.out.mono B1.out.size))
  have T2 := hide' (Tree_any P xs ea n c s two ta tn tc w5 (HE.out _ F5'.out) (HT.out _ F5'.out))
  have H1 := hide' h1
  clear hf1 b5 y0 y1 h1
  have y0 := cell_of_row w5 _ 0 _ _ _ (RW.out w5 B5.out)
  have y1 := cell_of_row w5 _ 1 _ _ _ (RW.out w5 B5.out)
  simp at y0 y1
  obtain ⟨z1, v1, rfl⟩ : ∃ z1 v1, e = .returned (.tuple #[.bool z1, v1]) := by
    rcases H1.out with ⟨_, h⟩ | ⟨_, _, _, z, _, _, _, _, h, _⟩
    · exact ⟨_, _, h⟩
    · exact ⟨_, _, h⟩
  go_wp2_with fail
  refine T2.out.mono ?_
  rintro e w6 ⟨f2, hf2, b6, h2⟩
  have HF2 := hide' hf2
  have H2 := hide' h2
  have B6 := hide' (B5.out.trans (b6.mono B5.out.size))
  have F5 := hide' (B1.out.trans (B6.out.mono B1.out.size))
  clear hf2 b6 y0 y1 h2
  have y0 := cell_of_row w6 _ 0 _ _ _ (RW.out w6 B6.out)
  have y1 := cell_of_row w6 _ 1 _ _ _ (RW.out w6 B6.out)
  simp at y0 y1
  rcases H1.out with ⟨n1, h⟩ | ⟨rfl, Q, t, z, hQ, ht, hR1, hl1, h, hz1⟩
  · injection h with h
    injection h with h
    simp at h
    obtain ⟨rfl, rfl⟩ := h
    rw [errOf_not n1]
    obtain ⟨z2, v2, rfl⟩ : ∃ z2 v2, e = .returned (.tuple #[.bool z2, v2]) := by
      rcases H2.out with ⟨_, h⟩ | ⟨_, _, _, z, _, _, _, _, h, _⟩
      · exact ⟨_, _, h⟩
      · exact ⟨_, _, h⟩
    clear n1
    go_wp2
    go_ret
    exact ⟨rfl, F5.out⟩
  · injection h with h
    injection h with h
    simp at h
    obtain ⟨rfl, rfl⟩ := h
    rcases H2.out with ⟨n2, rfl⟩ | ⟨rfl, Q2, t2, z2, hQ2, ht2, hR2, hl2, rfl, hz2⟩
    · rw [errOf_not n2]
      clear n2 hQ ht hR1 hl1 hz1
      go_wp2
      go_ret
      exact ⟨rfl, F5.out⟩
    · have hQQ : Q2 = Q := by omega
      have htt : t2 = t := by omega
      subst hQQ
      subst htt
      clear hQ2 ht2
      cases z1 with
      | false =>
        clear hQ ht hR1 hl1 hz1 hR2 hl2 hz2
        go_wp2
        go_ret
        exact ⟨rfl, F5.out⟩
      | true =>
        cases z2 with
        | false =>
          clear hQ ht hR1 hl1 hz1 hR2 hl2 hz2
          go_wp2
          go_ret
          exact ⟨rfl, F5.out⟩
        | true =>
          have HQ := hide' hQ
          have HT' := hide' ht
          have G1 := hide' hR1
          have G2' := hide' hR2
          have Z1 := hide' (hz1.1 rfl)
          have Z2 := hide' (hz2.1 rfl)
          clear hQ ht hR1 hl1 hz1 hR2 hl2 hz2
          by_cases k1 : pl < 0
          · go_wp2
            go_ret
            exact ⟨rfl, F5.out⟩
          by_cases k2 : P ≤ pl
          · go_wp2
            go_ret
            exact ⟨rfl, F5.out⟩
          by_cases k3 : pl = s
          · have e3 : (pl == s) = true := by simpa using k3
            clear k3
            go_wp2
            go_ret
            exact ⟨rfl, F5.out⟩
          have e3 : (pl == s) = false := by simpa using k3
          by_cases k4 : N < 0
          · go_wp2
            go_ret
            exact ⟨rfl, F5.out⟩
          by_cases k5 : 1000 < N
          · go_wp2
            go_ret
            exact ⟨rfl, F5.out⟩
          obtain ⟨lp, hlp⟩ := Int.eq_ofNat_of_zero_le (show 0 ≤ pl by omega)
          obtain ⟨M, hM⟩ := Int.eq_ofNat_of_zero_le (show 0 ≤ N by omega)
          have LP := hide' (show lp < Q2 by have := HQ.out; omega)
          have NE := hide' (show lp ≠ t2 by have := HT'.out; omega)
          have M1 := hide' (show M ≤ 1000 by omega)
          have q10 := G1.out.gr.p2
          have mk := mk_intR Q2 q10
          obtain rfl := HQ.out
          subst hlp
          subst hM
          clear k3
          go_upto_region 10 with fail
          obtain ⟨cb, hcb⟩ : ∃ cb, w6.heap.size = cb := ⟨_, rfl⟩
          obtain ⟨w7, hw7⟩ : ∃ w7, w6.alloc (.cells (arrS Q2 fun _ => .int .i64 0) 3) = w7 := ⟨_, rfl⟩
          have C7 := hide' (show w7.heap[cb]? = some (.cells (arrS Q2 fun _ => .int .i64 0) 3 (0, 0)) by rw [← hw7, ← hcb]; exact heap_alloc_new _ _)
          have B7 := hide' (show Below w6.heap.size w6 w7 by rw [← hw7]; exact (Below.refl _ _).alloc (Nat.le_refl _) _)
          have LC := hide' (show w6.heap.size ≤ cb by omega)
          rw [hcb, hw7]
          clear hcb hw7 mk y0 y1
          have x0 := cell_of_row w7 cb lp _ _ _ C7.out
          rw [arrS_get _ LP.out] at x0
          have x1 := frozen_of_row w7 cb lp _ _ C7.out
          have l1 : (lp : Int) < (Q2 : Int) := by have := LP.out; omega
          go_upto_region 11 with fail
          obtain ⟨w8, hw8⟩ : ∃ w8, w7.setCell ⟨cb, lp, none⟩ (.int .i64 (M : Int)) = w8 := ⟨_, rfl⟩
          have C8 := hide' (show ArgP w8 (lsN Q2 (onP lp M)) (some ⟨cb, 0, none⟩) Q2 Q2 by
            have h8 : w8.heap[cb]? = some (.cells (arrS Q2 fun k => .int .i64 ((onP lp M k : Nat) : Int)) 3 (0, 0)) := by
              rw [← hw8, heap_setCell_same _ _ _ _ _ _ C7.out, arrS_set]
              congr 2
              exact arrS_ext fun k _ => by unfold onP; by_cases q : k = lp <;> simp [q]
            exact arg_arr h8 q10)
          have B8 := hide' (show Below w6.heap.size w6 w8 by rw [← hw8]; exact B7.out.setCell LC.out _)
          rw [hw8]
          clear hw8 x0 x1 l1 C7 B7
          have F8 := hide' (F5.out.trans (B8.out.mono F5.out.size))
          have K8 := hide' (B6.out.trans (B8.out.mono B6.out.size))
          have y0 := cell_of_row w8 _ 0 _ _ _ (RW.out w8 K8.out)
          have y1 := cell_of_row w8 _ 1 _ _ _ (RW.out w8 K8.out)
          simp at y0 y1
          have LA := hide' (show LaG (Q2 : Int) s (lsN Q2 (onP lp M)) 0 by rw [HT'.out]; exact on_la LP.out G1.out.sk NE.out M1.out)
          have TO := hide' (show totL (lsN Q2 (onP lp M)) ≤ 1000 by rw [on_tot LP.out]; have := M1.out; omega)
          have R1' := hide' (Route_any (Q2 : Int) xs ea n c s one oa on oc (lsN Q2 (onP lp M)) (some ⟨cb, 0, none⟩) Q2 Q2 w8 (HE.out _ F8.out) (HO.out _ F8.out) C8.out)
          go_wp2_with fail
          refine R1'.out.mono ?_
          rintro e w9 ⟨f, hf, b9, h⟩
          obtain rfl := hf.only (Or.inr (Or.inr ⟨Or.inr ⟨HF1.out, LA.out⟩, TO.out, rfl⟩))
          rcases h with ⟨h0, _⟩ | ⟨_, Qa, ta', u, sb, sc, tb, rfl, hR⟩
          · exact absurd rfl h0
          have QA : Qa = Q2 := by have := hR.hP; omega
          have TA : ta' = t2 := by have := hR.hs; have := HT'.out; omega
          subst QA
          subst TA
          have HRA := hide' hR
          have B9 := hide' b9
          have F9 := hide' (F8.out.trans (b9.mono F8.out.size))
          have K9 := hide' (K8.out.trans (b9.mono K8.out.size))
          clear hf b9 hR y0 y1
          have y0 := cell_of_row w9 _ 0 _ _ _ (RW.out w9 K9.out)
          have y1 := cell_of_row w9 _ 1 _ _ _ (RW.out w9 K9.out)
          simp at y0 y1
          have R2' := hide' (Route_any (Qa : Int) xs ea n c s two ta tn tc (lsN Qa (onP lp M)) (some ⟨cb, 0, none⟩) Qa Qa w9 (HE.out _ F9.out) (HT.out _ F9.out) (C8.out.below B9.out))
          go_wp2_with fail
          refine R2'.out.mono ?_
          rintro e wa ⟨f, hf, ba, h⟩
          obtain rfl := hf.only (Or.inr (Or.inr ⟨Or.inr ⟨HF2.out, LA.out⟩, TO.out, rfl⟩))
          rcases h with ⟨h0, _⟩ | ⟨_, Qb, tb', u', sb', sc', tbb, rfl, hR⟩
          · exact absurd rfl h0
          have QB : Qb = Qa := by have := hR.hP; omega
          have TB : tb' = ta' := by have := hR.hs; have := HRA.out.hs; omega
          subst QB
          subst TB
          have HRB := hide' hR
          have FA := hide' (F9.out.trans (ba.mono F9.out.size))
          have SA := hide' (HRA.out.sgs.below ba)
          have SB := hide' hR.sgs
          clear hf ba hR y0 y1
          have I1 := hide' (Ints_any (lsN Qb (sgR (dgF xs) (sgN one) u)) (lsN Qb (sgR (dgF xs) (sgN two) u')) (some ⟨sb, 0, none⟩) (some ⟨sb', 0, none⟩) Qb sc Qb sc' wa SA.out SB.out)
          have DEC := hide' (trees_same (w2 := wa) HRA.out HRB.out LP.out NE.out Z1.out Z2.out)
          go_wp2_with fail
          refine I1.out.mono ?_
          rintro e wb ⟨rfl, nq1, hwb⟩
          have BB := hide' (show Below wa.heap.size wa wb by rw [hwb]; exact ⟨rfl, rfl, rfl, Nat.le_refl _, fun _ _ => rfl⟩)
          have FB := hide' (FA.out.trans (BB.out.mono FA.out.size))
          have I2 := hide' (Ints_any one two oa ta on oc tn tc wb (HO.out _ FB.out) (HT.out _ FB.out))
          rw [DEC.out]
          clear hwb
          go_wp2_with fail
          refine I2.out.mono ?_
          rintro e wc ⟨rfl, nq2, hwc⟩
          have BC := hide' (show Below wb.heap.size wb wc by rw [hwc]; exact ⟨rfl, rfl, rfl, Nat.le_refl _, fun _ _ => rfl⟩)
          have FC := hide' (FB.out.trans (BC.out.mono FB.out.size))
          clear hwc
          obtain ⟨zz, hzz⟩ : ∃ zz, decide (one = two) = zz := ⟨_, rfl⟩
          rw [hzz]
          clear hzz
          go_wp2
          go_ret
          exact ⟨by simp, FC.out⟩
end Go.Proofs.Ytpppmollmiomlaa

namespace Go.Proofs.Ytpppmollmiomlaa
open Go.ChangeShapes Go.WideShapes Go.ChangeAt Go.RowKit
open Go.ChangeMaps (setBlock shut_map_nil open_string shut_string keptBut_setBlock frozen?_setBlock heap_setBlock_same)
set_option linter.unusedVariables false

theorem laidOutR : laidOutB Try.prog = true := by kernel_rfl
theorem ownR : ownKnob Try.prog.godebug = none := by kernel_rfl
/-- A list of ints as it is read. -/
theorem ints_argR {H : Type} {enc : TypeId × Value → H} {W : World} {fuel : Nat} {cs : List Value} {x : DataW H × List MemPlace}
    (h : DataW.trod enc Try.prog W 0 (fun _ => true) true fuel 25 cs = some x) :
    ∃ (xs : List Int) (a : Option Addr) (c : Nat), cs = [.slice a xs.length c] ∧ ArgP W xs a xs.length c ∧ xs.length ≤ c ∧ c ≤ maxLen := by
  have q3 : Try.prog.cellsOf 3 = 1 := by kernel_rfl
  rcases open_ints Try.underlying25 Try.underlying3 q3 h with ⟨rfl, -⟩ | ⟨a, len, cap, zs, rfl, hb, hlc, hcm, hzl, -, hcell, hwf⟩
  · exact ⟨[], none, 0, rfl, ⟨rfl, by simp, fun k hk => absurd hk (by simp)⟩, by simp, by simp⟩
  · simp only [if_true] at hzl
    have hl : (zs.take len).length = len := by simp; omega
    refine ⟨zs.take len, some a, cap, by rw [hl], ⟨rfl, by omega, fun k hk => ?_⟩, by omega, hcm⟩
    have hk' : k < len ∧ k < zs.length := by simp only [List.length_take] at hk; omega
    have hc0 := hcell 0 (by omega)
    have hck := hcell k hk'.2
    obtain ⟨g, off, sp⟩ := a
    have hsp : sp = none := by
      cases sp with
      | none => rfl
      | some q =>
        exfalso
        simp [Addr.add, World.cell?] at hc0
        split at hc0 <;> simp at hc0
    subst hsp
    have ea : (⟨g, off, none⟩ : Addr).add k = ⟨g, off + k, none⟩ := by
      unfold Addr.add
      split
      · rename_i hz; subst hz; rfl
      · rfl
    rw [ea] at hck
    refine ⟨g, off, rfl, ?_, ?_⟩
    · rcases Nat.lt_or_ge g W.heap.size with q | q
      · exact q
      · simp [World.cell?, Array.getElem?_eq_none q] at hck
    · rw [hck]
      simp [List.getD, hk'.2]

set_option maxRecDepth 100000 in
/-- A list of ints that came in. -/
theorem open_listR {H : Type} {enc : TypeId × Value → H} {W : World} {base : Nat} {v : Value} {d : DataW H} {p : List MemPlace}
    (hv : Value.okWide Try.prog W .any base 25 v) (h : DataW.Trod enc Try.prog W 0 (fun _ => true) true 25 v d p) :
    ∃ (xs : List Int) (a : Option Addr) (c : Nat), v = .slice a xs.length c ∧ ArgP W xs a xs.length c ∧ xs.length ≤ c ∧ c ≤ maxLen := by
  obtain ⟨a0, n0, c0, rfl⟩ := okWide_slice Try.underlying25 hv
  obtain ⟨fuel, h⟩ := h
  obtain ⟨xs, a, c, e, ha, h1, h2⟩ := ints_argR h
  simp [Value.cells] at e
  obtain ⟨rfl, rfl, rfl⟩ := e
  exact ⟨xs, _, _, rfl, ha, h1, h2⟩
theorem cells_threeR {w : World} {a : Addr} {cs : List Value} (h : w.cells? 0 a 3 = some cs) : ∃ c0 c1 c2, cs = [c0, c1, c2] ∧ w.cell? (a.add 0) = some c0 ∧ w.cell? (a.add 1) = some c1 ∧ w.cell? (a.add 2) = some c2 := by
  unfold World.cells? at h
  rw [if_pos (Nat.zero_le _)] at h
  simp only [List.range, List.range.loop, List.mapM_cons, List.mapM_nil] at h
  cases h0 : w.cell? (a.add 0) with
  | none => simp [h0] at h
  | some c0 =>
  cases h1 : w.cell? (a.add 1) with
  | none => simp [h0, h1] at h
  | some c1 =>
  cases h2 : w.cell? (a.add 2) with
  | none => simp [h0, h1, h2] at h
  | some c2 =>
    simp [h0, h1, h2] at h
    exact ⟨c0, c1, c2, h.symm, rfl, rfl, rfl⟩
theorem add_atR (g off k : Nat) : (⟨g, off, none⟩ : Addr).add k = ⟨g, off + k, none⟩ := by
  unfold Addr.add
  split
  · rename_i hz; subst hz; rfl
  · rfl
theorem sp_noneR {w : World} {g off : Nat} {sp : Option Nat} {v : Value} (h : w.cell? (((⟨g, off, sp⟩ : Addr).add 0).add 0) = some v) : sp = none := by
  cases sp with
  | none => rfl
  | some q =>
    exfalso
    simp [Addr.add, World.cell?] at h
    split at h <;> simp at h
set_option maxRecDepth 100000 in
/-- An edge as it is read. -/
theorem edge_read {H : Type} {enc : TypeId × Value → H} {W : World} {fuel : Nat} {cs : List Value} {x : DataW H × List MemPlace}
    (h : DataW.trod enc Try.prog W 0 (fun _ => true) true fuel 27 cs = some x) (hc : cs.length = 3) : ∃ p : EgT, cs = [.int .i64 p.a, .int .i64 p.b, .int .i64 p.t] := by
  obtain ⟨xs, m, _, hx, hl, hlen, hf⟩ := DataW.trod_struct Try.underlying27 h
  have f0 := hf 0 _ rfl
  have f1 := hf 1 _ rfl
  have f2 := hf 2 _ rfl
  clear hf hx h hl
  have q3 : Try.prog.cellsOf 3 = 1 := by kernel_rfl
  match cs, hc with
  | [c0, c1, c2], _ =>
  match xs, hlen with
  | [y0, y1, y2], _ =>
  simp [q3] at f0 f1 f2
  obtain ⟨k0, e0, -, w0⟩ := DataW.trod_int Try.underlying3 f0
  obtain ⟨k1, e1, -, w1⟩ := DataW.trod_int Try.underlying3 f1
  obtain ⟨k2, e2, -, w2⟩ := DataW.trod_int Try.underlying3 f2
  simp only [List.cons.injEq, and_true] at e0 e1 e2
  subst e0 e1 e2
  exact ⟨⟨k0, k1, k2⟩, rfl⟩
set_option maxRecDepth 100000 in
/-- Edges that came in. -/
theorem edges_arg {H : Type} {enc : TypeId × Value → H} {W : World} {fuel : Nat} {cs : List Value} {x : DataW H × List MemPlace}
    (h : DataW.trod enc Try.prog W 0 (fun _ => true) true fuel 22 cs = some x) :
    ∃ (xs : List EgT) (a : Option Addr) (c : Nat), cs = [.slice a xs.length c] ∧ ArgE W xs a xs.length c := by
  have q3 : Try.prog.cellsOf 27 = 3 := by kernel_rfl
  rcases DataW.trod_slice Try.underlying22 h with ⟨e, -⟩ | ⟨a, n0, c0, elems, rest, n, -, e, -, hb, hlc, hcm, hel, hc, -⟩
  · exact ⟨[], none, 0, e, ⟨rfl, by simp, fun k hk => absurd hk (by simp)⟩⟩
  · rw [q3] at hc
    have key : ∀ i, ∃ q : EgT, i < n0 → W.cell? ((a.add (i * 3)).add 0) = some (.int .i64 q.a) ∧ W.cell? ((a.add (i * 3)).add 1) = some (.int .i64 q.b) ∧ W.cell? ((a.add (i * 3)).add 2) = some (.int .i64 q.t) := fun i => by
      by_cases hi : i < n0
      · have h1 := hc i hi
        have h2 : elems[i]? = some (elems[i]'(by omega)) := List.getElem?_eq_getElem _
        rw [h2] at h1
        cases h3 : W.cells? 0 (a.add (i * 3)) 3 with
        | none => rw [h3] at h1; cases h1
        | some cs =>
          rw [h3] at h1
          obtain ⟨c0', c1', c2', rfl, k0, k1, k2⟩ := cells_threeR h3
          obtain ⟨q, hq⟩ := edge_read h1 rfl
          simp only [List.cons.injEq, and_true] at hq
          obtain ⟨rfl, rfl, rfl⟩ := hq
          exact ⟨q, fun _ => ⟨k0, k1, k2⟩⟩
      · exact ⟨⟨0, 0, 0⟩, fun h => absurd h hi⟩
    obtain ⟨f, hf⟩ := Classical.axiomOfChoice key
    refine ⟨(List.range n0).map f, some a, c0, by simpa using e, ⟨by simp, by simp only [List.length_map, List.length_range]; have : maxLen = 9223372036854775807 := rfl; omega, fun k hk => ?_⟩⟩
    have hk' : k < n0 := by simpa using hk
    obtain ⟨g, off, sp⟩ := a
    have e0 := sp_noneR (hf 0 (by omega)).1
    subst e0
    obtain ⟨k0, k1, k2⟩ := hf k hk'
    rw [add_atR, add_atR] at k0 k1 k2
    simp only [List.getElem_map, List.getElem_range]
    refine ⟨g, off, rfl, ?_, by simpa using k0, k1, k2⟩
    rcases Nat.lt_or_ge g W.heap.size with q | q
    · exact q
    · simp [World.cell?, Array.getElem?_eq_none q] at k0
set_option maxRecDepth 100000 in
/-- A graph that came in. -/
theorem open_graph {H : Type} {enc : TypeId × Value → H} {W : World} {base : Nat} {v : Value} {d : DataW H} {p : List MemPlace}
    (hv : Value.okWide Try.prog W .any base 24 v) (h : DataW.Trod enc Try.prog W 0 (fun _ => true) true 24 v d p) :
    ∃ (P : Int) (xs : List EgT) (a : Option Addr) (c : Nat), v = .agg #[.int .i64 P, .slice a xs.length c] ∧ ArgE W xs a xs.length c := by
  obtain ⟨cs, rfl, hsz⟩ := okWide_struct Try.underlying24 hv
  obtain ⟨fuel, h⟩ := h
  obtain ⟨xs, m, _, hx, hl, hlen, hf⟩ := DataW.trod_struct Try.underlying24 h
  have f0 := hf 0 _ rfl
  have f1 := hf 1 _ rfl
  clear hf hx h hv hl
  have q3 : Try.prog.cellsOf 3 = 1 := by kernel_rfl
  have q4 : Try.prog.cellsOf 22 = 1 := by kernel_rfl
  rw [show Try.prog.cellsOf 24 = 2 by kernel_rfl] at hsz
  obtain ⟨cl⟩ := cs
  match cl, hsz with
  | [c0, c1], _ =>
  match xs, hlen with
  | [y0, y1], _ =>
  simp [Value.cells, q3, q4] at f0 f1
  obtain ⟨k0, e0, -, w0⟩ := DataW.trod_int Try.underlying3 f0
  obtain ⟨zs, a, c, e1, ha⟩ := edges_arg f1
  simp only [List.cons.injEq, and_true] at e0 e1
  subst e0 e1
  exact ⟨k0, zs, a, c, rfl, ha⟩
theorem trodAll_sixR {H : Type} {enc : TypeId × Value → H} {P : Program} {w : World} {base : Nat} {spare : Nat → Bool} {held : Bool} {t0 t1 t2 t3 t4 t5 : TypeId} {args : Array Value} {ds : List (DataW H)} {ps : List MemPlace} (h : DataW.TrodAll enc P w base spare held [t0, t1, t2, t3, t4, t5] args.toList ds ps) :
    ∃ v0 v1 v2 v3 v4 v5 d0 d1 d2 d3 d4 d5 p0 p1 p2 p3 p4 p5, args = #[v0, v1, v2, v3, v4, v5] ∧ ds = [d0, d1, d2, d3, d4, d5] ∧ ps = p0 ++ (p1 ++ (p2 ++ (p3 ++ (p4 ++ p5)))) ∧ DataW.Trod enc P w base spare held t0 v0 d0 p0 ∧ DataW.Trod enc P w base spare held t1 v1 d1 p1 ∧ DataW.Trod enc P w base spare held t2 v2 d2 p2 ∧ DataW.Trod enc P w base spare held t3 v3 d3 p3 ∧ DataW.Trod enc P w base spare held t4 v4 d4 p4 ∧ DataW.Trod enc P w base spare held t5 v5 d5 p5 := by
  obtain ⟨v0, vs0, d0, ds0, p0, q0, hargs, rfl, rfl, hd0, r0⟩ := trodAll_cons h
  obtain ⟨v1, vs1, d1, ds1, p1, q1, rfl, rfl, rfl, hd1, r1⟩ := trodAll_cons r0
  obtain ⟨v2, vs2, d2, ds2, p2, q2, rfl, rfl, rfl, hd2, r2⟩ := trodAll_cons r1
  obtain ⟨v3, vs3, d3, ds3, p3, q3, rfl, rfl, rfl, hd3, r3⟩ := trodAll_cons r2
  obtain ⟨v4, vs4, d4, ds4, p4, q4, rfl, rfl, rfl, hd4, r4⟩ := trodAll_cons r3
  obtain ⟨v5, vs5, d5, ds5, p5, q5, rfl, rfl, rfl, hd5, r5⟩ := trodAll_cons r4
  obtain ⟨rfl, rfl, rfl⟩ := trodAll_nil r5
  exact ⟨v0, v1, v2, v3, v4, v5, d0, d1, d2, d3, d4, d5, p0, p1, p2, p3, p4, p5, by cases args; simp_all, rfl, by simp, hd0, hd1, hd2, hd3, hd4, hd5⟩
end Go.Proofs.Ytpppmollmiomlaa

