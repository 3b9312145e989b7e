/-
  What the last text of this claim leans on, part 35: Ke8, Ke9, Kea, Kf8, Kfa, Kfb, Kf1, Kf2.
-/
import Derived.Test.YtpajdmhgonmgoaaDoorYt25
import Derived.Test.YtpajdmhgonmgoaaDoorYt34
import Derived.Test.YtpajdmhgonmgoaaDoorYt29
import Derived.Test.YtpajdmhgonmgoaaDoorYt11
import Derived.Test.YtpajdmhgonmgoaaDoorYt27
import Derived.Test.YtpajdmhgonmgoaaDoorYt7
import Derived.Test.YtpajdmhgonmgoaaDoorYt19
import Derived.Test.YtpajdmhgonmgoaaDoorProg
import Derived.Deep.RegionWith
namespace Go.Proofs.YtpajdmhgonmgoaaDoor
open Go.RowKit
set_option linter.unusedVariables false
set_option linter.unusedSimpArgs false
theorem rcS_is (xs : List EgT) (R : Nat → Bool) : ∀ j, j ≤ xs.length → rcS xs R j = rcL ((xs.take j).map edS) R := by
  intro j
  induction j with
  | zero => intro _; rfl
  | succ j ih =>
    intro h
    have hl : j < xs.length := by omega
    show rcE (rcS xs R j) (edS (xs.getD j egz)) = _
    rw [ih (by omega), eg_at hl, List.take_succ_eq_append_getElem hl, List.map_append]
    unfold rcL
    rw [List.foldl_append]
    rfl
theorem rcN_comm (es : List EdS) : ∀ (m : Nat) (R : Nat → Bool), rcN es m (rcL es R) = rcL es (rcN es m R)
  | 0, R => rfl
  | m + 1, R => by
    show rcN es m (rcL es (rcL es R)) = rcL es (rcN es m (rcL es R))
    exact rcN_comm es m (rcL es R)
theorem rcM_is (xs : List EgT) : ∀ m, rcM xs m = rcN (xs.map edS) m (fun k => decide (k = 0))
  | 0 => rfl
  | m + 1 => by
    show rcS xs (rcM xs m) xs.length = rcN (xs.map edS) m (rcL (xs.map edS) _)
    rw [rcS_is xs _ _ (Nat.le_refl _), List.take_length, rcM_is xs m, rcN_comm]
theorem OkG.graph {P : Nat} {xs : List EgT} (h : OkG P xs) {s : Nat} (hs : s < P) : GrS P s (btX xs) := by
  refine graph_of (m := P) hs h.okE' fun k hk => ?_
  rw [← rcM_is]
  exact h.all k hk
theorem OkG.deg {P : Nat} {xs : List EgT} (h : OkG P xs) {s : Nat} (hs : s < P) {k : Nat} (hk : k < P) (ks : k ≠ s) : 1 ≤ smS P (btX xs k) := by
  unfold btX
  rw [dg_sum h.okE']
  refine dg_pos (m := P) hs h.okE' (fun k hk => ?_) hk ks
  rw [← rcM_is]
  exact h.all k hk
theorem OkG.deg4 {P : Nat} {xs : List EgT} (h : OkG P xs) (k : Nat) : smS P (btX xs k) ≤ 4000 := by
  unfold btX
  rw [dg_sum h.okE']
  have := (dg_size h.okE' k).2
  have := h.n4
  simp at *
  omega
/-- Chips, place by place. -/
def chF (cs : List Int) (k : Nat) : Int := cs.getD k 0
structure GoodC (n sn : Nat) (xs : List EgT) (cs : List Int) : Prop where
  ok : OkG n xs
  sl : sn < n
  len : cs.length = n
  bnd : ∀ k, k < n → 0 ≤ chF cs k ∧ chF cs k ≤ 10000
  sink : chF cs sn = 0
theorem good_of {P s : Int} {xs : List EgT} {cs : List Int} (h : ChG P xs s cs 0) : ∃ n sn : Nat, P = (n : Int) ∧ s = (sn : Int) ∧ GoodC n sn xs cs := by
  obtain ⟨h1, h2⟩ := h.good
  obtain ⟨h3, h4, h5⟩ := h1.good
  obtain ⟨n, rfl, ok⟩ := h3.good
  obtain ⟨sn, rfl⟩ := Int.eq_ofNat_of_zero_le h4
  unfold LaG at h2
  rcases h2 with h2 | h2 | h2
  · omega
  · omega
  · obtain ⟨h6, h7, _⟩ := h2
    refine ⟨n, sn, rfl, rfl, ok, by omega, by omega, fun k hk => ?_, ?_⟩
    · have := h7 k (by omega)
      unfold badC at this
      unfold chF
      omega
    · have := h7 sn (by omega)
      unfold badC at this
      unfold chF
      omega
theorem GoodC.is {n sn : Nat} {xs : List EgT} {cs : List Int} (h : GoodC n sn xs cs) : ChG n xs sn cs 0 := by
  refine Or.inr ⟨SiG.of (FaG.of h.ok) (by omega) (by have := h.sl; omega), Or.inr (Or.inr ⟨by have := h.len; omega, fun k hk => ?_, rfl⟩)⟩
  have h1 := h.bnd k (by have := h.len; omega)
  have h2 := h.sink
  unfold chF at h1 h2
  unfold badC
  rintro (q | q | ⟨q1, q2⟩)
  · omega
  · omega
  · have e : k = sn := by omega
    subst e
    exact q2 h2
theorem GoodC.pile {n sn : Nat} {xs : List EgT} {cs : List Int} (h : GoodC n sn xs cs) : PileC n sn (btX xs) (chF cs) 100000 := by
  refine ⟨h.ok.graph h.sl, h.ok.p2, fun k hk => (h.bnd k hk).1, ?_, by omega, fun p hp ps => h.ok.deg h.sl hp ps⟩
  have h1 := smS_le (f := chF cs) (g := fun _ => 10000) (n := n) fun k hk => (h.bnd k hk).2
  have h2 : smS n (fun _ => (10000 : Int)) = 10000 * smS n (fun _ => 1) := by rw [← smS_mul]; rfl
  rw [h2, smS_ones] at h1
  have := h.ok.p2
  omega
end Go.Proofs.YtpajdmhgonmgoaaDoor

namespace Go.Proofs.YtpajdmhgonmgoaaDoor
open Go.RowKit
set_option linter.unusedVariables false
set_option linter.unusedSimpArgs false
def slS (g n q : Nat) : Value := .slice (some ⟨g, 0, none⟩) n q
/-- What Settle answers. -/
def SettleOut (w : World) (P : Int) (xs : List EgT) (s : Int) (cs : List Int) (e : Ending) (w' : World) : Prop :=
  Below w.heap.size w w' ∧ ∃ f, ChG P xs s cs f ∧ ((¬ f = 0 ∧ e = .returned (.tuple #[.agg #[.slice none 0 0, .slice none 0 0], errOf f])) ∨
    (f = 0 ∧ ∃ (n sn ca q ta : Nat) (u : Nat → Int), P = (n : Int) ∧ s = (sn : Int) ∧ e = .returned (.tuple #[.agg #[slS ca n q, slS ta n n], .nilIface]) ∧ PlS n sn (btX xs) (chF cs) u ∧ stillS n sn (btX xs) (chF cs) u ∧
      RowAt w' ca n (chS n sn (btX xs) (chF cs) u) ∧ RowAt w' ta n u ∧ w.heap.size ≤ ca ∧ w.heap.size ≤ ta ∧ ca ≠ ta))
theorem settle_res (w : World) (T : Array Value) (g : Nat) (x y z : Value) (hp : T.getD 6 undef = .pointer (some ⟨g, 0, none⟩)) (h9 : T.getD 7 undef = z) (hg : w.heap[g]? = some (.cells #[x, y] 33 (0, 0))) : (results Tryd.f9 T).run Tryd.prog w = .ok (.tuple #[.agg #[x, y], z]) w := by
  obtain ⟨k1, k2, _, _, k5⟩ := set2 (x := x) (y := y) hg
  have hp' : T[6]?.getD undef = .pointer (some ⟨g, 0, none⟩) := by simpa using hp
  have h9' : T[7]?.getD undef = z := by simpa using h9
  simp [results, Tryd.f9, hp', h9', asAddr, go_sem, loadCells, k1, k5, Addr.add]
theorem below_setCell {B g : Nat} {w w' : World} (h : Below B w w') (hg : B ≤ g) (i : Nat) (v : Value) : Below B w (w'.setCell ⟨g, i, none⟩ v) :=
  ⟨h.os, h.tape, h.output, by simpa using h.size, fun k hk => (hSetR _ _ _ _ (by show k ≠ g; omega)).trans (h.block k hk)⟩
set_option maxRecDepth 100000 in
set_option maxHeartbeats 6400000 in
theorem settleC_any (P : Int) (xs : List EgT) (ea : Option Addr) (n c : Nat) (s : Int) (cs : List Int) (ca : Option Addr) (cn cc : Nat) (w : World) (hE : ArgE w xs ea n c) (hC : ArgP w cs ca cn cc) :
    Calls Tryd.prog 9 #[.agg #[.int .i64 P, .slice ea n c], .int .i64 s, .slice ca cn cc] w (SettleOut w P xs s cs) := by
  obtain ⟨w0, hw0⟩ : ∃ w0, w.alloc (.cells #[.int .i64 P, .slice ea n c] 24) = w0 := ⟨_, rfl⟩
  obtain ⟨w1, hw1⟩ : ∃ w1, w0.alloc (.cells #[.slice none 0 0, .slice none 0 0] 33) = w1 := ⟨_, rfl⟩
  obtain ⟨rb, hrb⟩ : ∃ rb, w.heap.size + 1 = rb := ⟨_, rfl⟩
  have z0 : w0.heap.size = rb := by rw [← hw0, ← hrb]; simp
  have HW0 := hide' hw0
  have HW1 := hide' hw1
  have B0 : Below w.heap.size w w0 := by rw [← hw0]; exact (Below.refl _ _).alloc (Nat.le_refl _) _
  have B1 := hide' (show Below w.heap.size w w1 by rw [← hw1]; exact B0.alloc B0.size _)
  have R0 : w0.heap[w.heap.size]? = some (.cells #[.int .i64 P, .slice ea n c] 24 (0, 0)) := by rw [← hw0]; exact heap_alloc_new _ _
  have R1 := hide' (show w1.heap[w.heap.size]? = some (.cells #[.int .i64 P, .slice ea n c] 24 (0, 0)) by rw [← hw1]; exact (heap_alloc_old _ _ (ltS_of_block R0)).trans R0)
  have Q1 := hide' (show w1.heap[rb]? = some (.cells #[.slice none 0 0, .slice none 0 0] 33 (0, 0)) by rw [← hw1, ← z0]; exact heap_alloc_new _ _)
  have LR := hide' (show w.heap.size ≤ rb by omega)
  have CK := hide' (checkChips_any P xs ea n c s cs ca cn cc w1 (hE.below B1.out) (hC.below B1.out))
  have PO := hide' (fun (V : World) (h : Below w.heap.size w V) (Q sn : Nat) (hQ : P = (Q : Int)) (hs : s = (sn : Int)) (G : GoodC Q sn xs cs) => show Calls Tryd.prog 20 #[.agg #[.int .i64 P, .slice ea n c], .int .i64 s, .slice ca cn cc] V (PourX V Q sn xs cs) by rw [hQ, hs]; exact pourX_any Q xs ea n c sn cs ca cn cc V (hE.below h) (hC.below h) G.ok (by rw [hC.len, G.len]) G.sl)
  have HRB := hide' hrb
  clear hw0 hw1 hE hC z0 B0 R0 hrb
  have y0 := cell_of_row w1 _ 0 _ _ _ R1.out
  have y1 := cell_of_row w1 _ 1 _ _ _ R1.out
  simp at y0 y1
  go_enter Tryd.func9, Tryd.ntmps9
  go_upto_region 1 with fail
  rw [HRB.out, HW0.out, HW1.out]
  go_wp2_with fail
  refine CK.out.mono ?_
  rintro e w2 ⟨f, hf, rfl, b2⟩
  have HF := hide' hf
  have B2 := hide' (B1.out.trans (b2.mono B1.out.size))
  have R2 := hide' ((b2.block _ (ltS_of_block R1.out)).trans R1.out)
  have Q2 := hide' ((b2.block _ (ltS_of_block Q1.out)).trans Q1.out)
  clear hf b2 y0 y1
  by_cases h0 : f = 0
  · subst h0
    rw [show errOf 0 = .nilIface from rfl]
    have y0 := cell_of_row w2 _ 0 _ _ _ R2.out
    have y1 := cell_of_row w2 _ 1 _ _ _ R2.out
    simp at y0 y1
    obtain ⟨Q, sn, hQ, hs, G⟩ := good_of HF.out
    have CP := hide' (PO.out w2 B2.out Q sn hQ hs G)
    have GG := hide' G
    have HQs := hide' (show P = (Q : Int) ∧ s = (sn : Int) from ⟨hQ, hs⟩)
    clear hQ hs G
    go_wp2_with fail
    refine CP.out.mono ?_
    rintro e w3 ⟨pb, ca', q, ta, rfl, hp, b3, g1, g2, g3⟩
    have B3 := hide' (B2.out.trans (b3.mono B2.out.size))
    have Q3 := hide' ((b3.block _ (ltS_of_block Q2.out)).trans Q2.out)
    have PP := GG.out.pile
    have ST := hide' (settle_any pb ca' q ta Q sn (btX xs) (chF cs) (fun _ => 0) 100000 w3 PP (hp.same (fun k hk => by
      unfold chS
      split
      · rename_i e; rw [e]; exact GG.out.sink
      · rw [lap_zero]; unfold chF; omega) (fun _ _ => rfl)) (PlS.start PP.c0p) (fun _ _ => Int.le_refl _) (fun k => GG.out.ok.deg4 k))
    have GE := hide' (show w2.heap.size ≤ pb ∧ w2.heap.size ≤ ca' ∧ w2.heap.size ≤ ta from ⟨g1, g2, g3⟩)
    have N3 := hide' hp.n3
    clear b3 y0 y1 hp g1 g2 g3 PP
    go_wp2_with fail
    refine ST.out.mono ?_
    rintro e w4 ⟨rfl, u, pl, st, _, hp, tw⟩
    have lt2 := ltS_of_block Q2.out
    have sw := B1.out.size
    have gE := GE.out
    have b4 : Below w.heap.size w3 w4 := ⟨tw.1, tw.2.1, tw.2.2.1, by rw [tw.2.2.2.1]; exact Nat.le_refl _, fun k hk => tw.2.2.2.2 k (by have := B2.out.size; omega) (by have := B2.out.size; omega)⟩
    have B4 := hide' (B3.out.trans b4)
    have Q4 : w4.heap[rb]? = some (.cells #[.slice none 0 0, .slice none 0 0] 33 (0, 0)) := (tw.2.2.2.2 rb (by omega) (by omega)).trans Q3.out
    obtain ⟨k1, k2, k3, k4, _⟩ := set2 (x := slS ca' Q q) (y := slS ta Q Q) (show w4.drew.heap[rb]? = some (.cells #[.slice none 0 0, .slice none 0 0] 33 (0, 0)) from Q4)
    have j1 := cell_of_row w4 rb 0 _ _ _ Q4
    have j2 := cell_of_row w4 rb 1 _ _ _ Q4
    have j3 := frozen_of_row w4 rb 0 _ _ Q4
    have j4 := frozen_of_row w4 rb 1 _ _ Q4
    simp at j1 j2
    have QQ4 := hide' Q4
    have c0 : w4.drew.cell? ⟨pb, 112, none⟩ = some (slS ca' Q q) := hp.chs
    have c1 : w4.drew.cell? ⟨pb, 113, none⟩ = some (slS ta Q Q) := hp.tps
    have HPP := hide' hp
    have HPL := hide' (show PlS Q sn (btX xs) (chF cs) u ∧ stillS Q sn (btX xs) (chF cs) u from ⟨pl, st⟩)
    have LB := hide' (show rb ≠ ca' ∧ rb ≠ ta ∧ w.heap.size ≤ ca' ∧ w.heap.size ≤ ta from ⟨by omega, by omega, by have := B2.out.size; omega, by have := B2.out.size; omega⟩)
    unfold slS at k3 k4 c0 c1
    clear b4 tw pl st hp sw gE lt2 Q4
    go_upto_region 6 with fail
    go_region
    obtain ⟨w5, hw5⟩ : ∃ w5, ((w4.setCell ⟨rb, 0, none⟩ (slS ca' Q q)).setCell ⟨rb, 1, none⟩ (slS ta Q Q)).drew = w5 := ⟨_, rfl⟩
    have r5 : w5.heap[rb]? = some (.cells #[slS ca' Q q, slS ta Q Q] 33 (0, 0)) := by
      rw [← hw5]
      have h1 := heap_setCell_same w4 rb 0 _ _ (slS ca' Q q) QQ4.out
      exact heap_setCell_same _ rb 1 _ _ (slS ta Q Q) h1
    have o5 : ∀ k, k ≠ rb → w5.heap[k]? = w4.heap[k]? := fun k hk => by
      rw [← hw5]
      show ((w4.setCell ⟨rb, 0, none⟩ (slS ca' Q q)).setCell ⟨rb, 1, none⟩ (slS ta Q Q)).heap[k]? = _
      rw [hSetR _ _ _ _ hk, hSetR _ _ _ _ hk]
    have b5 : Below w.heap.size w w5 := by rw [← hw5]; exact (below_setCell (below_setCell B4.out LR.out _ _) LR.out _ _).drew
    have e5 : ((w4.setCell ⟨rb, 0, none⟩ (.slice (some ⟨ca', 0, none⟩) Q q)).setCell ⟨rb, 1, none⟩ (.slice (some ⟨ta, 0, none⟩) Q Q)).drew = w5 := hw5
    rw [e5]
    obtain ⟨C, hC1, hC2⟩ := HPP.out.ch
    have X := hide' (show SettleOut w P xs s cs (.returned (.tuple #[.agg #[slS ca' Q q, slS ta Q Q], .nilIface])) w5 from
      ⟨b5, 0, HF.out, Or.inr ⟨rfl, Q, sn, ca', q, ta, u, HQs.out.1, HQs.out.2, rfl, HPL.out.1, HPL.out.2, ⟨C, (o5 _ (Ne.symm LB.out.1)).trans hC1, hC2⟩, ⟨_, (o5 _ (Ne.symm LB.out.2.1)).trans HPP.out.tp, fun k hk => arrS_get _ hk⟩, LB.out.2.2.1, LB.out.2.2.2, N3.out⟩⟩)
    have R5 := hide' r5
    clear e5 hw5 r5 o5 b5 hC1 hC2 j1 j2 j3 j4 k1 k2 k3 k4 c0 c1
    go_wp2
    exact bodyPost_ret (settle_res _ _ rb _ _ .nilIface (by simp) (by simp) R5.out) rfl X.out
  · have H0 := hide' h0
    have EF := hide' (errOf_not h0)
    rw [EF.out]
    obtain ⟨k1, k2, k3, k4, _⟩ := set2 (x := .slice none 0 0) (y := .slice none 0 0) Q2.out
    clear h0
    go_wp2
    have r2 : ((w2.setCell ⟨rb, 0, none⟩ (.slice none 0 0)).setCell ⟨rb, 1, none⟩ (.slice none 0 0)).heap[rb]? = some (.cells #[.slice none 0 0, .slice none 0 0] 33 (0, 0)) := by
      have h1 := heap_setCell_same w2 rb 0 _ _ (.slice none 0 0) Q2.out
      exact heap_setCell_same _ rb 1 _ _ (.slice none 0 0) h1
    refine bodyPost_ret (settle_res _ _ rb _ _ (errOf f) (by simp) (by rw [EF.out]; simp) r2) rfl ?_
    exact ⟨below_setCell (below_setCell B2.out LR.out _ _) LR.out _ _, f, HF.out, Or.inl ⟨H0.out, rfl⟩⟩
end Go.Proofs.YtpajdmhgonmgoaaDoor

namespace Go.Proofs.YtpajdmhgonmgoaaDoor
open Go.RowKit
set_option linter.unusedVariables false
set_option linter.unusedSimpArgs false
end Go.Proofs.YtpajdmhgonmgoaaDoor

namespace Go.Proofs.YtpajdmhgonmgoaaDoor
set_option linter.unusedVariables false
theorem chS.congU {n s : Nat} {b : Nat → Nat → Int} {c u u' : Nat → Int} (e : ∀ k, k < n → u k = u' k) {k : Nat} (hk : k < n) : chS n s b c u k = chS n s b c u' k := by
  unfold chS; rw [lap_congr e hk]
/-- One legal topple more. -/
theorem law_step {n s : Nat} {b : Nat → Nat → Int} {c v F : Nat → Int} (G : GrS n s b) (h : PlS n s b c v) (hF : ∀ k, k < n → F k = chS n s b c v k) {k : Nat} (hk : k < n) (ks : k ≠ s) (can : smS n (b k) ≤ F k) :
    PlS n s b c (upS v k 1) ∧ ∀ j, j < n → tpF n s b F k 1 j = chS n s b c (upS v k 1) j := by
  have can' : smS n (b k) ≤ c k - lapS n b v k := by
    rw [hF k hk] at can
    unfold chS at can
    rw [if_neg ks] at can
    exact can
  refine ⟨h.one G hk ks can', fun j hj => ?_⟩
  rw [← tpF_ch G hk 1 (fun e => absurd e ks) hj]
  unfold tpF
  rw [hF j hj]
end Go.Proofs.YtpajdmhgonmgoaaDoor

namespace Go.Proofs.YtpajdmhgonmgoaaDoor
open Go.RowKit
set_option linter.unusedVariables false
set_option linter.unusedSimpArgs false
/-- On to the next piece alone: for a region that draws its order. -/
def nrmQ (Q : Act → World → Prop) : Exit → Act → World → Prop
  | .normal, a, w => Q a w
  | _, _, _ => False
/-- What stands between two topples. -/
structure LpI (W : World) (M gx tb n sn : Nat) (xs : List EgT) (ea : Option Addr) (en ec : Nat) (b : Nat → Nat → Int) (c v : Nat → Int) (nb : Nat) (V : World) : Prop where
  bl : Below M W V
  old : ∀ k, k < W.heap.size → k ≠ tb → V.heap[k]? = W.heap[k]?
  tm : V.heap[tb]? = some (.cells (arrS n fun k => .int .i64 (v k)) 3 (0, 0))
  now : ∃ F, RowAt V nb n F ∧ ∀ k, k < n → F k = chS n sn b c v k
  pl : PlS n sn b c v
  ne : nb ≠ tb
theorem row_on' {w w' : World} {g n : Nat} {f : Nat → Int} (h : RowAt w g n f) (e : w'.heap[g]? = w.heap[g]?) : RowAt w' g n f := by
  obtain ⟨C, h1, h2⟩ := h
  exact ⟨C, e.trans h1, h2⟩
theorem arg_of_row {w : World} {g n q : Nat} {F : Nat → Int} (h : RowAt w g n F) (hn : n ≤ 10) : ArgP w ((List.range n).map F) (some ⟨g, 0, none⟩) n q := by
  refine ⟨by simp, by unfold maxLen; omega, fun k hk => ?_⟩
  have hk' : k < n := by simpa using hk
  obtain ⟨C, h1, h2⟩ := h
  refine ⟨g, 0, rfl, ltS_of_block h1, ?_⟩
  rw [Nat.zero_add]
  have := (cell_of_row w g k _ _ _ h1).trans (h2 k hk')
  rw [this]
  simp
theorem chF_range {n : Nat} {F : Nat → Int} {k : Nat} (h : k < n) : chF ((List.range n).map F) k = F k := by
  unfold chF
  simp [List.getD, h]
theorem LpI.below {W : World} {M gx tb n sn : Nat} {xs : List EgT} {ea : Option Addr} {en ec : Nat} {b : Nat → Nat → Int} {c v : Nat → Int} {nb : Nat} {V V' : World} (h : LpI W M gx tb n sn xs ea en ec b c v nb V) (hM : M ≤ W.heap.size) (b' : Below V.heap.size V V') : LpI W M gx tb n sn xs ea en ec b c v nb V' := by
  have s1 := h.bl.size
  obtain ⟨F, r, e⟩ := h.now
  exact ⟨h.bl.trans (b'.mono (by omega)), fun k hk ht => (b'.block k (by omega)).trans (h.old k hk ht), (b'.block tb (ltS_of_block h.tm)).trans h.tm, ⟨F, row_on' r (b'.block nb (by obtain ⟨C, h1, _⟩ := r; exact ltS_of_block h1)), e⟩, h.pl, h.ne⟩
theorem LpI.up {W : World} {M gx tb n sn : Nat} {xs : List EgT} {ea : Option Addr} {en ec : Nat} {cl : List Int} {v F : Nat → Int} {nb nb' k : Nat} {V0 V : World} (h : LpI W M gx tb n sn xs ea en ec (btX xs) (chF cl) v nb V) (hM : M ≤ W.heap.size) (tM : M ≤ tb) (GC : GoodC n sn xs cl) (rF : RowAt V0 nb n F) (eF : ∀ k, k < n → F k = chS n sn (btX xs) (chF cl) v k) (kn : k < n) (ks : k ≠ sn) (can : smS n (btX xs k) ≤ chF ((List.range n).map F) k) (row : RowAt V nb' n (tpF n sn (btX xs) (chF ((List.range n).map F)) k 1)) (hn : tb < nb') :
    LpI W M gx tb n sn xs ea en ec (btX xs) (chF cl) (upS v k 1) nb' (V.setCell ⟨tb, k, none⟩ (.int .i64 (v k + 1))) := by
  have st := law_step (F := chF ((List.range n).map F)) GC.pile.gr h.pl (fun j hj => by rw [chF_range hj]; exact eF j hj) kn ks can
  refine ⟨h.bl.setCell (p := ⟨tb, k, none⟩) tM _, fun j hj ht => ?_, ?_, ⟨_, row_on' row ?_, st.2⟩, st.1, by omega⟩
  · rw [hSet _ _ _ _ ht]; exact h.old j hj ht
  · rw [heap_setCell_same _ _ _ _ _ _ h.tm, arrS_set]
    congr 2
    exact arrS_ext fun j _ => by
      unfold upS
      by_cases q : j = k
      · rw [if_pos q, if_pos q, q]
      · rw [if_neg q, if_neg q]
  · exact hSet _ _ _ _ (by show nb' ≠ tb; omega)
end Go.Proofs.YtpajdmhgonmgoaaDoor

namespace Go.Proofs.YtpajdmhgonmgoaaDoor
open Go.RowKit
set_option linter.unusedVariables false
set_option linter.unusedSimpArgs false
end Go.Proofs.YtpajdmhgonmgoaaDoor

namespace Go.Proofs.YtpajdmhgonmgoaaDoor
open Go.RowKit
set_option linter.unusedVariables false
open Go.Conc Go.ConcN Go.RowKit
set_option linter.unusedSimpArgs false
section
variable {P : Program} {S : FuncId → Bool}
/-- Alone, from here on, to where T holds of the machine; the trace stays good. -/
def Reach (P : Program) (g : Goroutine) (w : World) (T : Machine → Trace → Prop) : Prop := ∀ tr, PastS w.heap.size tr → ∃ N m' tr', runNT P N (solo g w) tr = (.next m', tr') ∧ T m' tr'
theorem Reach.step {g g' : Goroutine} {w w' : World} {es : Array Event} {T : Machine → Trace → Prop} (hs : g.status = .running) (h : stepG P true g w = .go g' w' es) (hsz : w.heap.size ≤ w'.heap.size) (hev : ∀ e ∈ es, EvG w'.heap.size e) (hr : Reach P g' w' T) : Reach P g w T := by
  intro tr hp
  obtain ⟨N, m', tr', h1, h2⟩ := hr _ ((hp.mono hsz).own (fn := g.frame.fn) (pos := g.frame.place) (fun e he => (hev e he).evL))
  exact ⟨N + 1, m', tr', by rw [runNT_solo hs h]; exact h1, h2⟩
theorem Reach.ctl {g g' : Goroutine} {w : World} {T : Machine → Trace → Prop} (hs : g.status = .running) (h : stepG P true g w = .go g' w #[]) (hr : Reach P g' w T) : Reach P g w T := Reach.step hs h (Nat.le_refl _) (fun e he => by simp at he) hr
theorem bes_solo {g : Goroutine} {w : World} {tr : Trace} (h : PastS w.heap.size tr) : Bes P (fun _ => False) w.heap.size g w (solo g w) tr :=
  ⟨#[g], none, fun _ => 0, rfl, rfl, ⟨fun i x hi hx => by
    have : i < 1 := by simpa using (Array.getElem?_eq_some_iff.1 hx).1
    omega, fun j hj => h.2.1 j (Nat.lt_of_lt_of_le (Nat.zero_lt_one) (show 1 ≤ j by simpa using hj))⟩, h.1⟩
/-- From here on it walks beside nobody. -/
theorem Reach.bes {g : Goroutine} {w : World} {T : Machine → Trace → Prop} (h : ∀ m t, Bes P (fun _ => False) w.heap.size g w m t → ∃ N m' t', runNT P N m t = (.next m', t') ∧ T m' t') : Reach P g w T := fun tr hp => h _ _ (bes_solo hp)
/-- One piece of code that comes to its end. -/
theorem reach_wp (M : Mild P S) {b : Frame} (hk : b.kind ≠ .early) (hb : (P.funcs[b.fn]?).isSome = true) (hi : P.inits.idxOf? b.fn = none) {c : Code} {a : Act} {w : World} {k : List Item} {cs : List Frame} {T : Machine → Trace → Prop}
    (hc : tameC S c = true) (hd : a.defers = []) (h : c.wp P (fun e a' w' => e = .normal ∧ Reach P (G (b.at a' k) cs) w' T) a w) : Reach P (G (b.at a (.code c :: k)) cs) w T := by
  have key := arr_of_wp M hk hb hi hc hd h (fun e a' w' q => q) k cs
  intro tr hp
  obtain ⟨N, a', w', tr', hq, hsz, hr, hp'⟩ := key tr hp
  obtain ⟨N2, m2, tr2, h1, h2⟩ := hq tr' hp'
  refine ⟨N + N2, m2, tr2, ?_, h2⟩
  have hr' : runNT P N (solo (G (b.at a (.code c :: k)) cs) w) tr = (.next (solo (G (b.at a' k) cs) w'), tr') := hr
  rw [runNT_then hr']
  exact h1
theorem reach_seq (M : Mild P S) {b : Frame} (hk : b.kind ≠ .early) (hb : (P.funcs[b.fn]?).isSome = true) (hi : P.inits.idxOf? b.fn = none) {c d : Code} {a : Act} {w : World} {k : List Item} {cs : List Frame} {T : Machine → Trace → Prop}
    (hc : tameC S c = true) (hd : a.defers = []) (h : c.wp P (fun e a' w' => e = .normal ∧ Reach P (G (b.at a' (.code d :: k)) cs) w' T) a w) : Reach P (G (b.at a (.code (.seq c d) :: k)) cs) w T :=
  Reach.ctl rfl stepG_seq (reach_wp M hk hb hi hc hd h)
end
end Go.Proofs.YtpajdmhgonmgoaaDoor

namespace Go.Proofs.YtpajdmhgonmgoaaDoor
open Go.RowKit
set_option linter.unusedVariables false
open Go.Conc Go.ConcN Go.RowKit
set_option linter.unusedSimpArgs false
def sandS (f : FuncId) : Bool := [6, 9, 14, 16, 17, 19, 20, 21, 27, 28, 29, 31, 32, 33, 34, 43, 48].contains f
theorem tm0 : ∃ fn c, Tryd.prog.funcs[6]? = some fn ∧ (fn.name == "runtime.NumGoroutine") = false ∧ fn.body = some c ∧ tameC sandS c = true :=
  ⟨_, _, Tryd.func6, by decide +kernel, rfl, by decide +kernel⟩
theorem tm1 : ∃ fn c, Tryd.prog.funcs[9]? = some fn ∧ (fn.name == "runtime.NumGoroutine") = false ∧ fn.body = some c ∧ tameC sandS c = true :=
  ⟨_, _, Tryd.func9, by decide +kernel, rfl, by decide +kernel⟩
theorem tm2 : ∃ fn c, Tryd.prog.funcs[14]? = some fn ∧ (fn.name == "runtime.NumGoroutine") = false ∧ fn.body = some c ∧ tameC sandS c = true :=
  ⟨_, _, Tryd.func14, by decide +kernel, rfl, by decide +kernel⟩
theorem tm3 : ∃ fn c, Tryd.prog.funcs[16]? = some fn ∧ (fn.name == "runtime.NumGoroutine") = false ∧ fn.body = some c ∧ tameC sandS c = true :=
  ⟨_, _, Tryd.func16, by decide +kernel, rfl, by decide +kernel⟩
theorem tm4 : ∃ fn c, Tryd.prog.funcs[17]? = some fn ∧ (fn.name == "runtime.NumGoroutine") = false ∧ fn.body = some c ∧ tameC sandS c = true :=
  ⟨_, _, Tryd.func17, by decide +kernel, rfl, by decide +kernel⟩
theorem tm5 : ∃ fn c, Tryd.prog.funcs[19]? = some fn ∧ (fn.name == "runtime.NumGoroutine") = false ∧ fn.body = some c ∧ tameC sandS c = true :=
  ⟨_, _, Tryd.func19, by decide +kernel, rfl, by decide +kernel⟩
theorem tm6 : ∃ fn c, Tryd.prog.funcs[20]? = some fn ∧ (fn.name == "runtime.NumGoroutine") = false ∧ fn.body = some c ∧ tameC sandS c = true :=
  ⟨_, _, Tryd.func20, by decide +kernel, rfl, by decide +kernel⟩
theorem tm7 : ∃ fn c, Tryd.prog.funcs[21]? = some fn ∧ (fn.name == "runtime.NumGoroutine") = false ∧ fn.body = some c ∧ tameC sandS c = true :=
  ⟨_, _, Tryd.func21, by decide +kernel, rfl, by decide +kernel⟩
theorem tm8 : ∃ fn c, Tryd.prog.funcs[27]? = some fn ∧ (fn.name == "runtime.NumGoroutine") = false ∧ fn.body = some c ∧ tameC sandS c = true :=
  ⟨_, _, Tryd.func27, by decide +kernel, rfl, by decide +kernel⟩
theorem tm9 : ∃ fn c, Tryd.prog.funcs[28]? = some fn ∧ (fn.name == "runtime.NumGoroutine") = false ∧ fn.body = some c ∧ tameC sandS c = true :=
  ⟨_, _, Tryd.func28, by decide +kernel, rfl, by decide +kernel⟩
theorem tm10 : ∃ fn c, Tryd.prog.funcs[29]? = some fn ∧ (fn.name == "runtime.NumGoroutine") = false ∧ fn.body = some c ∧ tameC sandS c = true :=
  ⟨_, _, Tryd.func29, by decide +kernel, rfl, by decide +kernel⟩
theorem tm11 : ∃ fn c, Tryd.prog.funcs[31]? = some fn ∧ (fn.name == "runtime.NumGoroutine") = false ∧ fn.body = some c ∧ tameC sandS c = true :=
  ⟨_, _, Tryd.func31, by decide +kernel, rfl, by decide +kernel⟩
theorem tm12 : ∃ fn c, Tryd.prog.funcs[32]? = some fn ∧ (fn.name == "runtime.NumGoroutine") = false ∧ fn.body = some c ∧ tameC sandS c = true :=
  ⟨_, _, Tryd.func32, by decide +kernel, rfl, by decide +kernel⟩
theorem tm13 : ∃ fn c, Tryd.prog.funcs[33]? = some fn ∧ (fn.name == "runtime.NumGoroutine") = false ∧ fn.body = some c ∧ tameC sandS c = true :=
  ⟨_, _, Tryd.func33, by decide +kernel, rfl, by decide +kernel⟩
theorem tm14 : ∃ fn c, Tryd.prog.funcs[34]? = some fn ∧ (fn.name == "runtime.NumGoroutine") = false ∧ fn.body = some c ∧ tameC sandS c = true :=
  ⟨_, _, Tryd.func34, by decide +kernel, rfl, by decide +kernel⟩
theorem tm15 : ∃ fn c, Tryd.prog.funcs[43]? = some fn ∧ (fn.name == "runtime.NumGoroutine") = false ∧ fn.body = some c ∧ tameC sandS c = true :=
  ⟨_, _, Tryd.func43, by decide +kernel, rfl, by decide +kernel⟩
theorem tm16 : ∃ fn c, Tryd.prog.funcs[48]? = some fn ∧ (fn.name == "runtime.NumGoroutine") = false ∧ fn.body = some c ∧ tameC sandS c = true :=
  ⟨_, _, Tryd.func48, by decide +kernel, rfl, by decide +kernel⟩
theorem no_readies : (Tryd.prog.funcs.toList.all fun f => (f.body.map readies).all (·.isEmpty)) = true := by decide +kernel
theorem no_step (g : Nat) : Tryd.prog.stepOf g = none := by
  unfold Program.stepOf
  rw [Array.findIdx?_eq_none_iff]
  intro x hx
  have := List.all_eq_true.1 no_readies x (by simpa using hx)
  cases h : x.body with
  | none => rfl
  | some c =>
    rw [h] at this
    simp only [Option.map_some, Option.all_some, List.isEmpty_iff] at this
    simp [this]
theorem sand_mild : Mild Tryd.prog sandS := by
  refine ⟨fun f hf => ?_, fun g => ?_, ?_⟩
  · unfold sandS at hf
    simp only [List.contains_cons, List.contains_nil, Bool.or_false, Bool.or_eq_true, beq_iff_eq] at hf
    rcases hf with rfl | rfl | rfl | rfl | rfl | rfl | rfl | rfl | rfl | rfl | rfl | rfl | rfl | rfl | rfl | rfl | rfl
    · exact tm0
    · exact tm1
    · exact tm2
    · exact tm3
    · exact tm4
    · exact tm5
    · exact tm6
    · exact tm7
    · exact tm8
    · exact tm9
    · exact tm10
    · exact tm11
    · exact tm12
    · exact tm13
    · exact tm14
    · exact tm15
    · exact tm16
  · exact no_step g
  · kernel_rfl
end Go.Proofs.YtpajdmhgonmgoaaDoor

