/-
  What the last text of this claim leans on, part 20: Rwa, Rwb.
-/
import Derived.Test.YtpppmollmiomlaaDoorZu19
import Derived.OwnWalk
namespace Go.Proofs.YtpppmollmiomlaaDoor
open Go.RowKit
set_option linter.unusedVariables false
set_option linter.unusedSimpArgs false
/-- What is wrong with signs and chips. -/
def RcG (P : Int) (xs : List EgT) (s : Int) (ss cs : List Int) (f : Nat) : Prop := (¬ f = 0 ∧ SgG P xs s ss f) ∨ (SgG P xs s ss 0 ∧ LaG P s cs f)
theorem RcG.only {P : Int} {xs : List EgT} {s : Int} {ss cs : List Int} {f g : Nat} (h : RcG P xs s ss cs f) (k : RcG P xs s ss cs g) : f = g := by
  unfold RcG at h k
  rcases h with h | h <;> rcases k with k | k
  · exact h.2.only k.2
  · exact absurd (h.2.only k.1) h.1
  · exact absurd (k.2.only h.1) k.1
  · exact h.2.only k.2
theorem RcG.good {P : Int} {xs : List EgT} {s : Int} {ss cs : List Int} (h : RcG P xs s ss cs 0) : SgG P xs s ss 0 ∧ LaG P s cs 0 := by
  rcases h with h | h
  · exact absurd rfl h.1
  · exact h
theorem SgG.sink {P : Int} {xs : List EgT} {s : Int} {ss : List Int} (h : SgG P xs s ss 0) : SiG P xs s 0 := by
  rcases h with h | h
  · exact absurd rfl h.1
  · exact h.1
set_option maxRecDepth 100000 in
set_option maxHeartbeats 6400000 in
theorem withChips_any (P : Int) (xs : List EgT) (ea : Option Addr) (n c : Nat) (s : Int) (ss : List Int) (sa : Option Addr) (sn sc' : Nat) (cs : List Int) (ca : Option Addr) (cn cc : Nat) (w : World) (hE : ArgE w xs ea n c) (hS : ArgP w ss sa sn sc') (hC : ArgP w cs ca cn cc) :
    Calls Tryd.prog 21 #[.agg #[.int .i64 P, .slice ea n c], .int .i64 s, .slice sa sn sc', .slice ca cn cc] w (WithOut w P xs s ss (RcG P xs s ss cs)) := by
  obtain ⟨w1, hw1⟩ : ∃ w1, w.alloc (.cells #[.int .i64 P, .slice ea n c] 24) = w1 := ⟨_, rfl⟩
  have HW1 := hide' hw1
  have B1 := hide' (show Below w.heap.size w w1 by rw [← hw1]; exact (Below.refl _ _).alloc (Nat.le_refl _) _)
  have R1 := hide' (show w1.heap[w.heap.size]? = some (.cells #[.int .i64 P, .slice ea n c] 24 (0, 0)) by rw [← hw1]; exact heap_alloc_new _ _)
  have CK := hide' (withSigns_any P xs ea n c s ss sa sn sc' w1 (hE.below B1.out) (hS.below B1.out))
  have TP := hide' (fun (V : World) (h : Below w.heap.size w V) => toppleNil_any P xs ea n c s cs ca cn cc V (hE.below h) (hC.below h))
  have y0 := cell_of_row w1 _ 0 _ _ _ R1.out
  have y1 := cell_of_row w1 _ 1 _ _ _ R1.out
  simp at y0 y1
  clear hw1 hE hS hC
  go_enter Tryd.func21, Tryd.ntmps21
  go_upto_region 1 with fail
  rw [HW1.out]
  go_wp2_with fail
  refine CK.out.mono ?_
  rintro e w2 ⟨f, hf, b2, h⟩
  have HF := hide' hf
  have B2 := hide' (B1.out.trans (b2.mono B1.out.size))
  have R2 := hide' ((b2.block _ (ltS_of_block R1.out)).trans R1.out)
  clear hf b2 y0 y1
  rcases h with ⟨h0, rfl⟩ | ⟨rfl, Q, t, pb, wb, sb, sc, tb, v, hQ, ht, hR, hs, rfl, hB⟩
  · have H0 := hide' h0
    have EF := hide' (errOf_not h0)
    rw [EF.out]
    clear h0
    go_wp2
    go_ret2
    exact ⟨f, Or.inl ⟨H0.out, HF.out⟩, B2.out, Or.inl ⟨H0.out, by rw [EF.out]; rfl⟩⟩
  · have HB := hide' hB
    have HX := hide' (And.intro hQ (And.intro ht (And.intro hR hs)))
    have TC := hide' (TP.out w2 B2.out)
    have y0 := cell_of_row w2 _ 0 _ _ _ R2.out
    have y1 := cell_of_row w2 _ 1 _ _ _ R2.out
    simp at y0 y1
    clear hB hQ ht hR hs
    go_wp2_with fail
    refine TC.out.mono ?_
    rintro e w3 ⟨f, x, hf, rfl, b3⟩
    have B3 := hide' (B2.out.trans (b3.mono B2.out.size))
    have HB3 := hide' (HB.out.next b3)
    have HL := hide' (show LaG P s cs f from by
      rcases hf with h | h
      · exact absurd (h.2.only HF.out.sink) h.1
      · exact h.2)
    clear hf b3 y0 y1
    by_cases h0 : f = 0
    · subst h0
      rw [show errOf 0 = .nilIface from rfl]
      go_wp2
      go_ret2
      refine ⟨0, Or.inr ⟨HF.out, HL.out⟩, B3.out, Or.inr ⟨rfl, Q, t, pb, wb, sb, sc, tb, v, HX.out.1, HX.out.2.1, HX.out.2.2.1, HX.out.2.2.2, rfl, HB3.out.mono B1.out.size⟩⟩
    · have H0 := hide' h0
      have EF := hide' (errOf_not h0)
      rw [EF.out]
      clear h0
      go_wp2
      go_ret2
      exact ⟨f, Or.inr ⟨HF.out, HL.out⟩, B3.out, Or.inl ⟨H0.out, by rw [EF.out]; rfl⟩⟩
def TreeOut (w : World) (P : Int) (xs : List EgT) (s : Int) (ss : List Int) (e : Ending) (w' : World) : Prop :=
  ∃ f, SgG P xs s ss f ∧ Below w.heap.size w w' ∧ ((¬ f = 0 ∧ e = .returned (.tuple #[.bool false, errOf f])) ∨ (f = 0 ∧ ∃ (Q t : Nat) (z : Bool), P = (Q : Int) ∧ s = (t : Int) ∧ RtOk Q t xs (sgN ss) ∧ ss = lsN Q (sgN ss) ∧ e = .returned (.tuple #[.bool z, .nilIface]) ∧ (z = true ↔ treeR Q t (wyF xs) (sgN ss))))
set_option maxRecDepth 100000 in
set_option maxHeartbeats 6400000 in
theorem Tree_any (P : Int) (xs : List EgT) (ea : Option Addr) (n c : Nat) (s : Int) (ss : List Int) (sa : Option Addr) (sn sc' : Nat) (w : World) (hE : ArgE w xs ea n c) (hS : ArgP w ss sa sn sc') :
    Calls Tryd.prog 5 #[.agg #[.int .i64 P, .slice ea n c], .int .i64 s, .slice sa sn sc'] w (TreeOut w P xs s ss) := by
  obtain ⟨w1, hw1⟩ : ∃ w1, w.alloc (.cells #[.int .i64 P, .slice ea n c] 24) = w1 := ⟨_, rfl⟩
  have HW1 := hide' hw1
  have B1 := hide' (show Below w.heap.size w w1 by rw [← hw1]; exact (Below.refl _ _).alloc (Nat.le_refl _) _)
  have R1 := hide' (show w1.heap[w.heap.size]? = some (.cells #[.int .i64 P, .slice ea n c] 24 (0, 0)) by rw [← hw1]; exact heap_alloc_new _ _)
  have CK := hide' (withSigns_any P xs ea n c s ss sa sn sc' w1 (hE.below B1.out) (hS.below B1.out))
  have y0 := cell_of_row w1 _ 0 _ _ _ R1.out
  have y1 := cell_of_row w1 _ 1 _ _ _ R1.out
  simp at y0 y1
  clear hw1 hE hS
  go_enter Tryd.func5, Tryd.ntmps5
  go_upto_region 1 with fail
  rw [HW1.out]
  go_wp2_with fail
  refine CK.out.mono ?_
  rintro e w2 ⟨f, hf, b2, h⟩
  have HF := hide' hf
  have B2 := hide' (B1.out.trans (b2.mono B1.out.size))
  clear hf b2 y0 y1
  rcases h with ⟨h0, rfl⟩ | ⟨rfl, Q, t, pb, wb, sb, sc, tb, v, hQ, ht, hR, hs, rfl, hB⟩
  · have H0 := hide' h0
    have EF := hide' (errOf_not h0)
    rw [EF.out]
    clear h0
    go_wp2
    go_ret2
    exact ⟨f, HF.out, B2.out, Or.inl ⟨H0.out, by rw [EF.out]; rfl⟩⟩
  · have HX := hide' (And.intro hQ (And.intro ht (And.intro hR hs)))
    have TC := hide' (tree_any w2 pb w1.heap.size Q t wb sb sc tb v xs (sgN ss) _ hB hR.gr.p2 hR.sgOk)
    clear hB hQ ht hR hs
    go_wp2_with fail
    refine TC.out.mono ?_
    rintro e w3 ⟨⟨z, rfl, hz⟩, b3⟩
    have HZ := hide' hz
    have B3 := hide' (B2.out.trans (b3.mono B2.out.size))
    clear b3 hz
    go_wp2
    go_ret2
    exact ⟨0, HF.out, B3.out, Or.inr ⟨rfl, Q, t, z, HX.out.1, HX.out.2.1, HX.out.2.2.1, HX.out.2.2.2, rfl, HZ.out.trans (comes_tree HX.out.2.2.1.sgOk)⟩⟩
end Go.Proofs.YtpppmollmiomlaaDoor

namespace Go.Proofs.YtpppmollmiomlaaDoor
open Go.RowKit
set_option linter.unusedVariables false
set_option linter.unusedSimpArgs false
def totL (cs : List Int) : Int := smS cs.length fun k => cs.getD k 0
def chN (cs : List Int) (k : Nat) : Int := cs.getD k 0
def RoG (P : Int) (xs : List EgT) (s : Int) (ss cs : List Int) (f : Nat) : Prop := (¬ f = 0 ∧ RcG P xs s ss cs f) ∨ (RcG P xs s ss cs 0 ∧ 1000 < totL cs ∧ f = 4) ∨ (RcG P xs s ss cs 0 ∧ totL cs ≤ 1000 ∧ f = 0)
theorem RoG.only {P : Int} {xs : List EgT} {s : Int} {ss cs : List Int} {f g : Nat} (h : RoG P xs s ss cs f) (k : RoG P xs s ss cs g) : f = g := by
  unfold RoG at h k
  rcases h with h | h | h <;> rcases k with k | k | k
  · exact h.2.only k.2
  · exact absurd (h.2.only k.1) h.1
  · exact absurd (h.2.only k.1) h.1
  · exact absurd (k.2.only h.1) k.1
  · omega
  · omega
  · exact absurd (k.2.only h.1) k.1
  · omega
  · omega
/-- Chips that are right. -/
structure ChOk (P s : Nat) (cs : List Int) : Prop where
  len : cs.length = P
  lo : ∀ k, k < P → 0 ≤ chN cs k
  hi : ∀ k, k < P → chN cs k ≤ 10000
  zs : chN cs s = 0
theorem LaG.chips {P s : Nat} {cs : List Int} (h : LaG P s cs 0) (hs : s < P) : ChOk P s cs := by
  obtain ⟨h1, h2⟩ := h.good
  have l : cs.length = P := by omega
  refine ⟨l, fun k hk => ?_, fun k hk => ?_, ?_⟩
  · have := h2 k (by omega); unfold badC at this; unfold chN; omega
  · have := h2 k (by omega); unfold badC at this; unfold chN; omega
  · have := h2 s (by omega); unfold badC at this; unfold chN; omega
theorem ChOk.tot {P s : Nat} {cs : List Int} (h : ChOk P s cs) : totL cs = smS P (chN cs) := by unfold totL; rw [h.len]; rfl
theorem ChOk.all {P s : Nat} {cs : List Int} (h : ChOk P s cs) (p2 : P ≤ 10) : smS P (chN cs) ≤ 100000 := by
  have := smS_le_mul (f := chN cs) (C := 10000) (n := P) h.hi
  omega
theorem own_arg {w : World} {base : Nat} {g n q : Nat} {xs : List Int} (h : w.ownsRow base 3 1 (.slice (some ⟨g, 0, none⟩) n q) n (xs.map (Value.int .i64))) (hn : n ≤ 10) : ArgP w xs (some ⟨g, 0, none⟩) n q := by
  have l : xs.length = n := by have := h.1; simpa using this
  refine ⟨l.symm, by unfold maxLen; omega, fun k hk => ⟨g, 0, rfl, ?_, ?_⟩⟩
  · have := (h.lt g rfl).2; exact this
  · rw [Nat.zero_add, h.cellAt k (by omega), List.getElem?_map, List.getElem?_eq_getElem hk]
    rfl
structure RouteOk (w w' : World) (P s : Int) (xs : List EgT) (ss cs : List Int) (Q t : Nat) (u : Nat → Nat) (sb sc tb : Nat) : Prop where
  hP : P = (Q : Int)
  hs : s = (t : Int)
  ok : RtOk Q t xs (sgN ss)
  ls : ss = lsN Q (sgN ss)
  ch : ChOk Q t cs
  wk : WkR Q t (wyF xs) (dgF xs) (sgN ss) (chN cs) u
  dn : doneR Q t (wyF xs) (dgF xs) (sgN ss) (chN cs) u
  zr : ∀ k, Q ≤ k → u k = 0
  tr : treeR Q t (wyF xs) (sgN ss) → treeR Q t (wyF xs) (sgR (dgF xs) (sgN ss) u)
  sgs : ArgP w' (lsN Q (sgR (dgF xs) (sgN ss) u)) (some ⟨sb, 0, none⟩) Q sc
  wts : ArgP w' (lsN Q u) (some ⟨tb, 0, none⟩) Q Q
def RouteOut (w : World) (P : Int) (xs : List EgT) (s : Int) (ss cs : List Int) (e : Ending) (w' : World) : Prop :=
  ∃ f, RoG P xs s ss cs f ∧ Below w.heap.size w w' ∧ ((¬ f = 0 ∧ e = .returned (.tuple #[.slice none 0 0, .slice none 0 0, errOf f])) ∨ (f = 0 ∧ ∃ (Q t : Nat) (u : Nat → Nat) (sb sc tb : Nat), e = .returned (.tuple #[.slice (some ⟨sb, 0, none⟩) Q sc, .slice (some ⟨tb, 0, none⟩) Q Q, .nilIface]) ∧ RouteOk w w' P s xs ss cs Q t u sb sc tb))
set_option maxRecDepth 100000 in
set_option maxHeartbeats 6400000 in
theorem Route_any (P : Int) (xs : List EgT) (ea : Option Addr) (n c : Nat) (s : Int) (ss : List Int) (sa : Option Addr) (sn sc' : Nat) (cs : List Int) (ca : Option Addr) (cn cc : Nat) (w : World) (hE : ArgE w xs ea n c) (hS : ArgP w ss sa sn sc') (hC : ArgP w cs ca cn cc) :
    Calls Tryd.prog 10 #[.agg #[.int .i64 P, .slice ea n c], .int .i64 s, .slice sa sn sc', .slice ca cn cc] w (RouteOut w P xs s ss cs) := by
  obtain ⟨w1, hw1⟩ : ∃ w1, w.alloc (.cells #[.int .i64 P, .slice ea n c] 24) = w1 := ⟨_, rfl⟩
  have HW1 := hide' hw1
  have B1 := hide' (show Below w.heap.size w w1 by rw [← hw1]; exact (Below.refl _ _).alloc (Nat.le_refl _) _)
  have R1 := hide' (show w1.heap[w.heap.size]? = some (.cells #[.int .i64 P, .slice ea n c] 24 (0, 0)) by rw [← hw1]; exact heap_alloc_new _ _)
  have CK := hide' (withChips_any P xs ea n c s ss sa sn sc' cs ca cn cc w1 (hE.below B1.out) (hS.below B1.out) (hC.below B1.out))
  have SU := hide' (fun (V : World) (h : Below w.heap.size w V) => sumR_any cs ca cn cc V (hC.below h))
  have HC := hide' (fun (V : World) (h : Below w.heap.size w V) => hC.below h)
  have CL := hide' hC.len
  have y0 := cell_of_row w1 _ 0 _ _ _ R1.out
  have y1 := cell_of_row w1 _ 1 _ _ _ R1.out
  simp at y0 y1
  clear hw1 hE hS hC
  go_enter Tryd.func10, Tryd.ntmps10
  go_upto_region 1 with fail
  rw [HW1.out]
  go_wp2_with fail
  refine CK.out.mono ?_
  rintro e w2 ⟨f, hf, b2, h⟩
  have HF := hide' hf
  have B2 := hide' (B1.out.trans (b2.mono B1.out.size))
  clear hf b2 y0 y1
  rcases h with ⟨h0, rfl⟩ | ⟨rfl, Q, t, pb, wb, sb, sc, tb, v, hQ, ht, hR, hs, rfl, hB⟩
  · have H0 := hide' h0
    have EF := hide' (errOf_not h0)
    rw [EF.out]
    clear h0
    go_wp2
    go_ret3
    exact ⟨f, Or.inl ⟨H0.out, HF.out⟩, B2.out, Or.inl ⟨H0.out, by rw [EF.out]; rfl⟩⟩
  · have HQ := hide' hQ
    have HT := hide' ht
    have HR := hide' hR
    have HS := hide' hs
    have HB := hide' hB
    have CO := hide' (show ChOk Q t cs from LaG.chips (by have := HF.out.good.2; rw [hQ, ht] at this; exact this) hR.sk)
    have cq : cn = Q := by rw [CL.out]; exact CO.out.len
    have q10 : Q ≤ 10 := hR.gr.p2
    have SC := hide' (SU.out w2 B2.out (by omega) (fun k hk => ⟨CO.out.lo k (by omega), CO.out.hi k (by omega)⟩))
    have TT := hide' (show smS cn (fun k => cs.getD k 0) = totL cs by unfold totL; rw [CL.out])
    rw [TT.out] at SC
    have CQ := hide' cq
    clear hQ ht hR hs hB TT cq
    go_wp2_with fail
    refine SC.out.mono ?_
    rintro e w3 ⟨rfl, rfl⟩
    by_cases d : 1000 < totL cs
    · have D := hide' d
      go_wp2
      go_ret3
      exact ⟨4, Or.inr (Or.inl ⟨HF.out, D.out, rfl⟩), B2.out, Or.inl ⟨by decide, rfl⟩⟩
    · have D := hide' (show totL cs ≤ 1000 by omega)
      have TOT := hide' (show smS Q (chN cs) ≤ 100000 from CO.out.all q10)
      have SBT := hide' (show w1.heap.size ≤ sb ∧ w1.heap.size ≤ tb from ⟨(HB.out.sgs.lt sb rfl).1, (HB.out.wts.lt tb rfl).1⟩)
      have ST := hide' (show BdR w3 pb w1.heap.size Q t wb sb sc tb v (wyO xs) (lsN Q (sgR (dgF xs) (sgN ss) fun _ => 0)) (lsN Q fun _ => 0) by
        rw [show (sgR (dgF xs) (sgN ss) fun _ => 0) = sgN ss from funext fun k => by unfold sgR; rw [Nat.add_zero, HR.out.nrm]]
        exact HB.out)
      have S0 := hide' (RSt.start (n := Q) (s := t) (wy := wyF xs) (d := dgF xs) (sg := sgN ss) (c := chN cs) CO.out.lo)
      have LD := hide' (fun (X : World) (k i : Nat) (u : Nat → Nat) (hk : k < Q) (ks : k ≠ t) (hi : (i : Int) < chN cs k) (hX : BdR X pb w1.heap.size Q t wb sb sc tb v (wyO xs) (lsN Q (sgR (dgF xs) (sgN ss) u)) (lsN Q u)) (hu : RSt Q t (wyF xs) (dgF xs) (sgN ss) (chN cs) k i u) => show Calls Tryd.prog 23 #[.pointer (some ⟨pb, 0, none⟩), .int .i64 (k : Int)] X fun e w' => e = .returned (.tuple #[]) ∧ Hid (∃ u2, RSt Q t (wyF xs) (dgF xs) (sgN ss) (chN cs) k (i + 1) u2 ∧ BdR w' pb w1.heap.size Q t wb sb sc tb v (wyO xs) (lsN Q (sgR (dgF xs) (sgN ss) u2)) (lsN Q u2) ∧ KpB sb tb X w' ∧ (LdA Q t (wyF xs) (dgF xs) (sgN ss) (chN cs) u → LdA Q t (wyF xs) (dgF xs) (sgN ss) (chN cs) u2)) from by
        have r2 := HR.out.on hu.wk.zero hu.zr
        have ck : chR Q t (wyF xs) (dgF xs) (sgN ss) (chN cs) u k = chN cs k - i := by rw [hu.ch k hk ks, if_neg (by omega), if_pos rfl]
        refine (lead_any X pb w1.heap.size Q t wb sb sc tb v xs (sgR (dgF xs) (sgN ss) u) u hX r2 (chR Q t (wyF xs) (dgF xs) (sgN ss) (chN cs) u) (ch_nonneg hu.wk (by rw [CO.out.zs]; omega)) k hk ks (by omega) (fun u' hu' j hj => ?_)).mono ?_
        · have := went_few HR.out CO.out.lo TOT.out (hu.wk.then hu') j hj
          omega
        · rintro e w' ⟨rfl, m, u2, o, hb, kp, la⟩
          refine ⟨rfl, fun j => u j + u2 j, hu.lead hk ks o, ?_, kp, fun a => LdA.shift.1 (la (LdA.shift.2 a))⟩
          rw [show sgR (dgF xs) (sgN ss) (fun j => u j + u2 j) = sgR (dgF xs) (sgR (dgF xs) (sgN ss) u) u2 from funext fun k => (sg_then ..).symm]
          exact hb)
      go_wp2
      go_loopw [32] (fun iv wr => ∃ (k : Nat) (u : Nat → Nat), iv = .int .i64 (k : Int) ∧ k ≤ Q ∧ Hid (RSt Q t (wyF xs) (dgF xs) (sgN ss) (chN cs) k 0 u) ∧ Hid (BdR wr pb w1.heap.size Q t wb sb sc tb v (wyO xs) (lsN Q (sgR (dgF xs) (sgN ss) u)) (lsN Q u)) ∧ Hid (KpB sb tb w3 wr) ∧ Hid (LdA Q t (wyF xs) (dgF xs) (sgN ss) (chN cs) (fun _ => 0) → LdA Q t (wyF xs) (dgF xs) (sgN ss) (chN cs) u)) (fun iv _ => Q - (intOf iv).toNat)
      case atStart => exact ⟨0, _, rfl, by omega, S0, ST, hide' (KpB.refl _ _ _), hide' fun a => a⟩
      case round =>
        obtain ⟨k, u, rfl, hk, HU, HW, KW, LW⟩ := hrel
        have BW := hide' (B2.out.trans (KW.out.below (Nat.le_trans B1.out.size SBT.out.1) (Nat.le_trans B1.out.size SBT.out.2) B2.out.size))
        by_cases dk : (k : Int) < (cn : Int)
        · have hl : k < cs.length := by have := CL.out; omega
          obtain ⟨g, off, rfl, -, c0⟩ := (HC.out wr BW.out).cells k hl
          obtain ⟨N, hN⟩ := Int.eq_ofNat_of_zero_le (CO.out.lo k (by have := CQ.out; omega))
          have HN := hide' hN
          have c1 : wr.cell? ⟨g, off + k, none⟩ = some (.int .i64 (N : Int)) := by rw [c0, ← at_getD hl]; exact congrArg (fun z => some (Value.int .i64 z)) hN
          have n4 : N ≤ 10000 := by have := CO.out.hi k (by have := CQ.out; omega); omega
          clear c0 hN
          go_wp2
          obtain ⟨wo, hwo⟩ : ∃ wo : World, wo = wr := ⟨_, rfl⟩
          rw [← hwo] at HW KW BW ⊢
          clear c1 hwo
          go_loopw [38] (fun jv V => ∃ (i : Nat) (u2 : Nat → Nat), jv = .int .i64 (i : Int) ∧ i ≤ N ∧ Hid (RSt Q t (wyF xs) (dgF xs) (sgN ss) (chN cs) k i u2) ∧ Hid (BdR V pb w1.heap.size Q t wb sb sc tb v (wyO xs) (lsN Q (sgR (dgF xs) (sgN ss) u2)) (lsN Q u2)) ∧ Hid (KpB sb tb w3 V) ∧ Hid (LdA Q t (wyF xs) (dgF xs) (sgN ss) (chN cs) (fun _ => 0) → LdA Q t (wyF xs) (dgF xs) (sgN ss) (chN cs) u2)) (fun jv _ => N - (intOf jv).toNat)
          case atStart => exact ⟨0, u, rfl, by omega, HU, HW, KW, LW⟩
          case round =>
            obtain ⟨i, u2, rfl, hi, HU2, HW2, KW2, LW2⟩ := hrel
            by_cases di : (i : Int) < (N : Int)
            · have kt := hide' (show k ≠ t from fun e => by
                have a := HN.out
                rw [e, CO.out.zs] at a
                omega)
              have LC := hide' (LD.out wr k i u2 (by have := CQ.out; omega) kt.out (by rw [HN.out]; exact di) HW2.out HU2.out)
              go_wp2_with fail
              refine LC.out.mono ?_
              rintro e w5 ⟨rfl, hx⟩
              obtain ⟨u3, h1, h2, h3, h4⟩ := hx.out
              have U3 := hide' h1
              have W3 := hide' h2
              have K3 := hide' (KW2.out.trans h3)
              have LW3 := hide' (fun a => h4 (LW2.out a))
              clear hx h1 h2 h3 h4
              go_wp2
              exact ⟨⟨i + 1, u3, by go_num, by omega, U3, W3, K3, LW3⟩, by simp [intOf]; omega⟩
            · obtain rfl : i = N := by omega
              have UN := hide' (HU2.out.next (fun _ => HN.out))
              go_wp2
              exact ⟨⟨k + 1, u2, by go_num, by have := CQ.out; omega, UN, HW2, KW2, LW2⟩, by simp [intOf]; have := CQ.out; omega⟩
        · obtain rfl : k = Q := by have := CQ.out; omega
          have x2 := cell_of_row wr pb 2 _ _ _ HW.out.box
          have x3 := cell_of_row wr pb 3 _ _ _ HW.out.box
          simp at x2 x3
          go_upto_region 14 with fail
          go_quiet (fail)
          obtain ⟨w4, hw4⟩ : ∃ w4, wr.drewN nq = w4 := ⟨_, rfl⟩
          have B4 := hide' (show Below wr.heap.size wr w4 by rw [← hw4]; exact ⟨rfl, rfl, rfl, Nat.le_refl _, fun _ _ => rfl⟩)
          rw [hw4]
          clear hw4 x2 x3
          go_wp2
          go_ret3
          have hb := HW.out.next B4.out
          exact ⟨0, Or.inr (Or.inr ⟨HF.out, D.out, rfl⟩), BW.out.trans (B4.out.mono BW.out.size), Or.inr ⟨rfl, k, t, u, sb, sc, tb, rfl, HQ.out, HT.out, HR.out, HS.out, CO.out, HU.out.wk, HU.out.done, HU.out.zr, LdA.tree HR.out HU.out.done HU.out.wk.zero HU.out.zr LW.out, own_arg hb.sgs q10, own_arg hb.wts q10⟩⟩
end Go.Proofs.YtpppmollmiomlaaDoor

