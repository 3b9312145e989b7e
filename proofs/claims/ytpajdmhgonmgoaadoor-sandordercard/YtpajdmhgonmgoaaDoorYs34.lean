/-
  What the last text of this claim leans on, part 34: Ke9, Kea, Kf8.
-/
import Derived.Test.YtpajdmhgonmgoaaDoorYs33
import Derived.Test.YtpajdmhgonmgoaaDoorYs28
import Derived.Deep.RegionWith
namespace Go.Proofs.YtpajdmhgonmgoaaDoor
open Go.RowKit
set_option linter.unusedVariables false
set_option linter.unusedSimpArgs false
def slS (g n q : Nat) : Value := .slice (some ⟨g, 0, none⟩) n q
/-- What Settle answers. -/
def SettleOut (w : World) (P : Int) (xs : List EgT) (s : Int) (cs : List Int) (e : Ending) (w' : World) : Prop :=
  Below w.heap.size w w' ∧ ∃ f, ChG P xs s cs f ∧ ((¬ f = 0 ∧ e = .returned (.tuple #[.agg #[.slice none 0 0, .slice none 0 0], errOf f])) ∨
    (f = 0 ∧ ∃ (n sn ca q ta : Nat) (u : Nat → Int), P = (n : Int) ∧ s = (sn : Int) ∧ e = .returned (.tuple #[.agg #[slS ca n q, slS ta n n], .nilIface]) ∧ PlS n sn (btX xs) (chF cs) u ∧ stillS n sn (btX xs) (chF cs) u ∧
      RowAt w' ca n (chS n sn (btX xs) (chF cs) u) ∧ RowAt w' ta n u ∧ w.heap.size ≤ ca ∧ w.heap.size ≤ ta ∧ ca ≠ ta))
theorem settle_res (w : World) (T : Array Value) (g : Nat) (x y z : Value) (hp : T.getD 6 undef = .pointer (some ⟨g, 0, none⟩)) (h9 : T.getD 7 undef = z) (hg : w.heap[g]? = some (.cells #[x, y] 33 (0, 0))) : (results Tryd.f9 T).run Tryd.prog w = .ok (.tuple #[.agg #[x, y], z]) w := by
  obtain ⟨k1, k2, _, _, k5⟩ := set2 (x := x) (y := y) hg
  have hp' : T[6]?.getD undef = .pointer (some ⟨g, 0, none⟩) := by simpa using hp
  have h9' : T[7]?.getD undef = z := by simpa using h9
  simp [results, Tryd.f9, hp', h9', asAddr, go_sem, loadCells, k1, k5, Addr.add]
theorem below_setCell {B g : Nat} {w w' : World} (h : Below B w w') (hg : B ≤ g) (i : Nat) (v : Value) : Below B w (w'.setCell ⟨g, i, none⟩ v) :=
  ⟨h.os, h.tape, h.output, by simpa using h.size, fun k hk => (hSetR _ _ _ _ (by show k ≠ g; omega)).trans (h.block k hk)⟩
set_option maxRecDepth 100000 in
set_option maxHeartbeats 6400000 in
theorem settleC_any (P : Int) (xs : List EgT) (ea : Option Addr) (n c : Nat) (s : Int) (cs : List Int) (ca : Option Addr) (cn cc : Nat) (w : World) (hE : ArgE w xs ea n c) (hC : ArgP w cs ca cn cc) :
    Calls Tryd.prog 9 #[.agg #[.int .i64 P, .slice ea n c], .int .i64 s, .slice ca cn cc] w (SettleOut w P xs s cs) := by
  obtain ⟨w0, hw0⟩ : ∃ w0, w.alloc (.cells #[.int .i64 P, .slice ea n c] 24) = w0 := ⟨_, rfl⟩
  obtain ⟨w1, hw1⟩ : ∃ w1, w0.alloc (.cells #[.slice none 0 0, .slice none 0 0] 33) = w1 := ⟨_, rfl⟩
  obtain ⟨rb, hrb⟩ : ∃ rb, w.heap.size + 1 = rb := ⟨_, rfl⟩
  have z0 : w0.heap.size = rb := by rw [← hw0, ← hrb]; simp
  have HW0 := hide' hw0
  have HW1 := hide' hw1
  have B0 : Below w.heap.size w w0 := by rw [← hw0]; exact (Below.refl _ _).alloc (Nat.le_refl _) _
  have B1 := hide' (show Below w.heap.size w w1 by rw [← hw1]; exact B0.alloc B0.size _)
  have R0 : w0.heap[w.heap.size]? = some (.cells #[.int .i64 P, .slice ea n c] 24 (0, 0)) := by rw [← hw0]; exact heap_alloc_new _ _
  have R1 := hide' (show w1.heap[w.heap.size]? = some (.cells #[.int .i64 P, .slice ea n c] 24 (0, 0)) by rw [← hw1]; exact (heap_alloc_old _ _ (ltS_of_block R0)).trans R0)
  have Q1 := hide' (show w1.heap[rb]? = some (.cells #[.slice none 0 0, .slice none 0 0] 33 (0, 0)) by rw [← hw1, ← z0]; exact heap_alloc_new _ _)
  have LR := hide' (show w.heap.size ≤ rb by omega)
  have CK := hide' (checkChips_any P xs ea n c s cs ca cn cc w1 (hE.below B1.out) (hC.below B1.out))
  have PO := hide' (fun (V : World) (h : Below w.heap.size w V) (Q sn : Nat) (hQ : P = (Q : Int)) (hs : s = (sn : Int)) (G : GoodC Q sn xs cs) => show Calls Tryd.prog 20 #[.agg #[.int .i64 P, .slice ea n c], .int .i64 s, .slice ca cn cc] V (PourX V Q sn xs cs) by rw [hQ, hs]; exact pourX_any Q xs ea n c sn cs ca cn cc V (hE.below h) (hC.below h) G.ok (by rw [hC.len, G.len]) G.sl)
  have HRB := hide' hrb
  clear hw0 hw1 hE hC z0 B0 R0 hrb
  have y0 := cell_of_row w1 _ 0 _ _ _ R1.out
  have y1 := cell_of_row w1 _ 1 _ _ _ R1.out
  simp at y0 y1
  go_enter Tryd.func9, Tryd.ntmps9
  go_upto_region 1 with fail
  rw [HRB.out, HW0.out, HW1.out]
  go_wp2_with fail
  refine CK.out.mono ?_
  rintro e w2 ⟨f, hf, rfl, b2⟩
  have HF := hide' hf
  have B2 := hide' (B1.out.trans (b2.mono B1.out.size))
  have R2 := hide' ((b2.block _ (ltS_of_block R1.out)).trans R1.out)
  have Q2 := hide' ((b2.block _ (ltS_of_block Q1.out)).trans Q1.out)
  clear hf b2 y0 y1
  by_cases h0 : f = 0
  · subst h0
    rw [show errOf 0 = .nilIface from rfl]
    have y0 := cell_of_row w2 _ 0 _ _ _ R2.out
    have y1 := cell_of_row w2 _ 1 _ _ _ R2.out
    simp at y0 y1
    obtain ⟨Q, sn, hQ, hs, G⟩ := good_of HF.out
    have CP := hide' (PO.out w2 B2.out Q sn hQ hs G)
    have GG := hide' G
    have HQs := hide' (show P = (Q : Int) ∧ s = (sn : Int) from ⟨hQ, hs⟩)
    clear hQ hs G
    go_wp2_with fail
    refine CP.out.mono ?_
    rintro e w3 ⟨pb, ca', q, ta, rfl, hp, b3, g1, g2, g3⟩
    have B3 := hide' (B2.out.trans (b3.mono B2.out.size))
    have Q3 := hide' ((b3.block _ (ltS_of_block Q2.out)).trans Q2.out)
    have PP := GG.out.pile
    have ST := hide' (settle_any pb ca' q ta Q sn (btX xs) (chF cs) (fun _ => 0) 100000 w3 PP (hp.same (fun k hk => by
      unfold chS
      split
      · rename_i e; rw [e]; exact GG.out.sink
      · rw [lap_zero]; unfold chF; omega) (fun _ _ => rfl)) (PlS.start PP.c0p) (fun _ _ => Int.le_refl _) (fun k => GG.out.ok.deg4 k))
    have GE := hide' (show w2.heap.size ≤ pb ∧ w2.heap.size ≤ ca' ∧ w2.heap.size ≤ ta from ⟨g1, g2, g3⟩)
    have N3 := hide' hp.n3
    clear b3 y0 y1 hp g1 g2 g3 PP
    go_wp2_with fail
    refine ST.out.mono ?_
    rintro e w4 ⟨rfl, u, pl, st, _, hp, tw⟩
    have lt2 := ltS_of_block Q2.out
    have sw := B1.out.size
    have gE := GE.out
    have b4 : Below w.heap.size w3 w4 := ⟨tw.1, tw.2.1, tw.2.2.1, by rw [tw.2.2.2.1]; exact Nat.le_refl _, fun k hk => tw.2.2.2.2 k (by have := B2.out.size; omega) (by have := B2.out.size; omega)⟩
    have B4 := hide' (B3.out.trans b4)
    have Q4 : w4.heap[rb]? = some (.cells #[.slice none 0 0, .slice none 0 0] 33 (0, 0)) := (tw.2.2.2.2 rb (by omega) (by omega)).trans Q3.out
    obtain ⟨k1, k2, k3, k4, _⟩ := set2 (x := slS ca' Q q) (y := slS ta Q Q) (show w4.drew.heap[rb]? = some (.cells #[.slice none 0 0, .slice none 0 0] 33 (0, 0)) from Q4)
    have j1 := cell_of_row w4 rb 0 _ _ _ Q4
    have j2 := cell_of_row w4 rb 1 _ _ _ Q4
    have j3 := frozen_of_row w4 rb 0 _ _ Q4
    have j4 := frozen_of_row w4 rb 1 _ _ Q4
    simp at j1 j2
    have QQ4 := hide' Q4
    have c0 : w4.drew.cell? ⟨pb, 112, none⟩ = some (slS ca' Q q) := hp.chs
    have c1 : w4.drew.cell? ⟨pb, 113, none⟩ = some (slS ta Q Q) := hp.tps
    have HPP := hide' hp
    have HPL := hide' (show PlS Q sn (btX xs) (chF cs) u ∧ stillS Q sn (btX xs) (chF cs) u from ⟨pl, st⟩)
    have LB := hide' (show rb ≠ ca' ∧ rb ≠ ta ∧ w.heap.size ≤ ca' ∧ w.heap.size ≤ ta from ⟨by omega, by omega, by have := B2.out.size; omega, by have := B2.out.size; omega⟩)
    unfold slS at k3 k4 c0 c1
    clear b4 tw pl st hp sw gE lt2 Q4
    go_upto_region 6 with fail
    go_region
    obtain ⟨w5, hw5⟩ : ∃ w5, ((w4.setCell ⟨rb, 0, none⟩ (slS ca' Q q)).setCell ⟨rb, 1, none⟩ (slS ta Q Q)).drew = w5 := ⟨_, rfl⟩
    have r5 : w5.heap[rb]? = some (.cells #[slS ca' Q q, slS ta Q Q] 33 (0, 0)) := by
      rw [← hw5]
      have h1 := heap_setCell_same w4 rb 0 _ _ (slS ca' Q q) QQ4.out
      exact heap_setCell_same _ rb 1 _ _ (slS ta Q Q) h1
    have o5 : ∀ k, k ≠ rb → w5.heap[k]? = w4.heap[k]? := fun k hk => by
      rw [← hw5]
      show ((w4.setCell ⟨rb, 0, none⟩ (slS ca' Q q)).setCell ⟨rb, 1, none⟩ (slS ta Q Q)).heap[k]? = _
      rw [hSetR _ _ _ _ hk, hSetR _ _ _ _ hk]
    have b5 : Below w.heap.size w w5 := by rw [← hw5]; exact (below_setCell (below_setCell B4.out LR.out _ _) LR.out _ _).drew
    have e5 : ((w4.setCell ⟨rb, 0, none⟩ (.slice (some ⟨ca', 0, none⟩) Q q)).setCell ⟨rb, 1, none⟩ (.slice (some ⟨ta, 0, none⟩) Q Q)).drew = w5 := hw5
    rw [e5]
    obtain ⟨C, hC1, hC2⟩ := HPP.out.ch
    have X := hide' (show SettleOut w P xs s cs (.returned (.tuple #[.agg #[slS ca' Q q, slS ta Q Q], .nilIface])) w5 from
      ⟨b5, 0, HF.out, Or.inr ⟨rfl, Q, sn, ca', q, ta, u, HQs.out.1, HQs.out.2, rfl, HPL.out.1, HPL.out.2, ⟨C, (o5 _ (Ne.symm LB.out.1)).trans hC1, hC2⟩, ⟨_, (o5 _ (Ne.symm LB.out.2.1)).trans HPP.out.tp, fun k hk => arrS_get _ hk⟩, LB.out.2.2.1, LB.out.2.2.2, N3.out⟩⟩)
    have R5 := hide' r5
    clear e5 hw5 r5 o5 b5 hC1 hC2 j1 j2 j3 j4 k1 k2 k3 k4 c0 c1
    go_wp2
    exact bodyPost_ret (settle_res _ _ rb _ _ .nilIface (by simp) (by simp) R5.out) rfl X.out
  · have H0 := hide' h0
    have EF := hide' (errOf_not h0)
    rw [EF.out]
    obtain ⟨k1, k2, k3, k4, _⟩ := set2 (x := .slice none 0 0) (y := .slice none 0 0) Q2.out
    clear h0
    go_wp2
    have r2 : ((w2.setCell ⟨rb, 0, none⟩ (.slice none 0 0)).setCell ⟨rb, 1, none⟩ (.slice none 0 0)).heap[rb]? = some (.cells #[.slice none 0 0, .slice none 0 0] 33 (0, 0)) := by
      have h1 := heap_setCell_same w2 rb 0 _ _ (.slice none 0 0) Q2.out
      exact heap_setCell_same _ rb 1 _ _ (.slice none 0 0) h1
    refine bodyPost_ret (settle_res _ _ rb _ _ (errOf f) (by simp) (by rw [EF.out]; simp) r2) rfl ?_
    exact ⟨below_setCell (below_setCell B2.out LR.out _ _) LR.out _ _, f, HF.out, Or.inl ⟨H0.out, rfl⟩⟩
end Go.Proofs.YtpajdmhgonmgoaaDoor

namespace Go.Proofs.YtpajdmhgonmgoaaDoor
open Go.RowKit
set_option linter.unusedVariables false
set_option linter.unusedSimpArgs false
/-- What Topple answers to one place. -/
def ToppleOut (w : World) (P : Int) (xs : List EgT) (s : Int) (cs : List Int) (x : Int) (e : Ending) (w' : World) : Prop :=
  Below w.heap.size w w' ∧ ∃ v er, e = .returned (.tuple #[v, er]) ∧ ((∃ t d, er = .iface t d) ∨
    (er = .nilIface ∧ ∃ (n sn k ca q : Nat), P = (n : Int) ∧ s = (sn : Int) ∧ GoodC n sn xs cs ∧ x = (k : Int) ∧ k < n ∧ k ≠ sn ∧ smS n (btX xs k) ≤ chF cs k ∧ v = slS ca n q ∧ RowAt w' ca n (tpF n sn (btX xs) (chF cs) k 1) ∧ w.heap.size ≤ ca))
set_option maxRecDepth 100000 in
set_option maxHeartbeats 6400000 in
theorem topple1_any (P : Int) (xs : List EgT) (ea : Option Addr) (n c : Nat) (s : Int) (cs : List Int) (ca : Option Addr) (cn cc : Nat) (x : Int) (oa : Option Addr) (oc : Nat) (w : World) (hE : ArgE w xs ea n c) (hC : ArgP w cs ca cn cc) (hO : ArgP w [x] oa 1 oc) :
    Calls Tryd.prog 14 #[.agg #[.int .i64 P, .slice ea n c], .int .i64 s, .slice ca cn cc, .slice oa 1 oc] w (ToppleOut w P xs s cs x) := by
  obtain ⟨w1, hw1⟩ : ∃ w1, w.alloc (.cells #[.int .i64 P, .slice ea n c] 24) = w1 := ⟨_, rfl⟩
  have HW1 := hide' hw1
  have B1 := hide' (show Below w.heap.size w w1 by rw [← hw1]; exact (Below.refl _ _).alloc (Nat.le_refl _) _)
  have R1 := hide' (show w1.heap[w.heap.size]? = some (.cells #[.int .i64 P, .slice ea n c] 24 (0, 0)) by rw [← hw1]; exact heap_alloc_new _ _)
  have CK := hide' (checkChips_any P xs ea n c s cs ca cn cc w1 (hE.below B1.out) (hC.below B1.out))
  have PO := hide' (fun (V : World) (h : Below w.heap.size w V) (Q sn : Nat) (hQ : P = (Q : Int)) (hs : s = (sn : Int)) (G : GoodC Q sn xs cs) => show Calls Tryd.prog 20 #[.agg #[.int .i64 P, .slice ea n c], .int .i64 s, .slice ca cn cc] V (PourX V Q sn xs cs) by rw [hQ, hs]; exact pourX_any Q xs ea n c sn cs ca cn cc V (hE.below h) (hC.below h) G.ok (by rw [hC.len, G.len]) G.sl)
  obtain ⟨og, ooff, rfl, hog, hoc⟩ := hO.cells 0 (by simp)
  have OC := hide' (fun (V : World) (h : Below w.heap.size w V) => show V.cell? ⟨og, ooff, none⟩ = some (.int .i64 x) from (World.cell?_of_block (w := w) (a := ⟨og, ooff, none⟩) (h.block og hog)).trans (by simpa using hoc))
  have y0 := cell_of_row w1 _ 0 _ _ _ R1.out
  have y1 := cell_of_row w1 _ 1 _ _ _ R1.out
  simp at y0 y1
  clear hw1 hE hC hO hoc hog
  go_enter Tryd.func14, Tryd.ntmps14
  go_upto_region 1 with fail
  rw [HW1.out]
  go_wp2_with fail
  refine CK.out.mono ?_
  rintro e w2 ⟨f, hf, rfl, b2⟩
  have HF := hide' hf
  have B2 := hide' (B1.out.trans (b2.mono B1.out.size))
  have R2 := hide' ((b2.block _ (ltS_of_block R1.out)).trans R1.out)
  clear hf b2 y0 y1
  by_cases h0 : f = 0
  · subst h0
    rw [show errOf 0 = .nilIface from rfl]
    have y0 := cell_of_row w2 _ 0 _ _ _ R2.out
    have y1 := cell_of_row w2 _ 1 _ _ _ R2.out
    simp at y0 y1
    obtain ⟨Q, sn, hQ, hs, G⟩ := good_of HF.out
    have CP := hide' (PO.out w2 B2.out Q sn hQ hs G)
    have GG := hide' G
    have HQs := hide' (show P = (Q : Int) ∧ s = (sn : Int) from ⟨hQ, hs⟩)
    clear hQ hs G
    go_wp2_with fail
    refine CP.out.mono ?_
    rintro e w3 ⟨pb, ca', q, ta, rfl, hp, b3, g1, g2, g3⟩
    have B3 := hide' (B2.out.trans (b3.mono B2.out.size))
    have R3 := hide' ((b3.block _ (ltS_of_block R2.out)).trans R2.out)
    have HP := hide' hp
    have GE := hide' (show w2.heap.size ≤ pb ∧ w2.heap.size ≤ ca' ∧ w2.heap.size ≤ ta from ⟨g1, g2, g3⟩)
    clear b3 y0 y1 hp g1 g2 g3
    go_wp2
    go_loopw [27] (fun iv V => (iv = .int .i64 0 ∧ V = w3) ∨ (iv = .int .i64 1 ∧ Hid (∃ k : Nat, x = (k : Int) ∧ k < Q ∧ k ≠ sn ∧ smS Q (btX xs k) ≤ chF cs k ∧ PilAt V pb ca' q ta Q sn (btX xs) (tpF Q sn (btX xs) (chF cs) k 1) (upI (fun _ => 0) k (0 + 1)) ∧ Below w.heap.size w V))) (fun iv _ => 1 - (intOf iv).toNat)
    case atStart => exact Or.inl ⟨rfl, rfl⟩
    case round =>
      rcases hrel with ⟨rfl, rfl⟩ | ⟨rfl, KR⟩
      · have o0 := OC.out wr B3.out
        have y0 := cell_of_row wr _ 0 _ _ _ R3.out
        have y1 := cell_of_row wr _ 1 _ _ _ R3.out
        simp at y0 y1
        have IP := hide' (isPlaceS_any P x ea n c wr)
        go_wp2_with fail
        refine IP.out.mono ?_
        rintro e w4 ⟨rfl, b4⟩
        have B4 := hide' (B3.out.trans (b4.mono B3.out.size))
        have HPX := hide' (show PilAt w4 pb ca' q ta Q sn (btX xs) (chF cs) (fun _ => 0) from (pil_below HP.out b4).same (fun _ _ => rfl) (fun _ _ => rfl))
        clear b4 o0 y0 y1
        by_cases hin : 0 ≤ x ∧ x < P
        · rw [inB_yes hin.1 hin.2]
          obtain ⟨k, rfl⟩ := Int.eq_ofNat_of_zero_le hin.1
          have hk : k < Q := by have := HQs.out.1; omega
          have HK := hide' hk
          by_cases hs : (k : Int) = s
          · have e1 : ((k : Int) == s) = true := by simp [hs]
            clear hs hin hk
            go_wp2
            go_ret2
            exact ⟨B4.out, _, _, rfl, Or.inl ⟨_, _, rfl⟩⟩
          · have e1 : ((k : Int) == s) = false := by simp [hs]
            have HKS := hide' (show k ≠ sn by have := HQs.out.2; omega)
            have PP := GG.out.pile
            have l0 : (0 : Int) ≤ (k : Int) := by omega
            have l1 : (k : Int) < (Q : Int) := by omega
            have l2 : k < 10 := by have := GG.out.ok.p2; omega
            have bn := GG.out.bnd k hk
            have dg := PP.deg k hk HKS.out
            obtain ⟨c2, -⟩ := HPX.out.chip hk
            obtain ⟨y, hy⟩ : ∃ y, chF cs k = y := ⟨_, rfl⟩
            rw [hy] at c2 bn
            have c0 := HPX.out.chs
            have CO := hide' (oftenX_any pb k Q sn (btX xs) y w4.drew (HPX.out.ground (k := 1) (by omega)) ((HPX.out.ground (k := 2 + k) (by omega)).trans (by rw [gdX_d Q sn _ l2])) l2 ⟨bn.1, by omega⟩ (fun _ => dg))
            have OP := hide' (of_pos (s := sn) (b := btX xs) (k := k) bn.1 (fun _ => dg))
            have OF := hide' (ofX_facts (s := sn) (b := btX xs) (k := k) (v := y) ⟨bn.1, by omega⟩ (fun _ => dg))
            have HY := hide' hy
            clear hs hin hk PP bn dg hy l2
            go_upto_region 10 with fail
            go_region_with (go_at_call 27; refine CO.out.mono ?_; rintro e w5 ⟨rfl, rfl⟩)
            all_goals
              obtain ⟨z, hz⟩ : ∃ z, ofX Q sn (btX xs) k y = z := ⟨_, rfl⟩
              have OZ := hide' (show (0 < z ↔ k ≠ sn ∧ smS Q (btX xs k) ≤ y) ∧ 0 ≤ z by have h1 := OP.out; have h2 := OF.out; rw [hz] at h1 h2; exact ⟨h1, h2.1⟩)
              rw [hz]
              clear hz c0 c2 l0 l1
              by_cases hz0 : z = 0
              · subst hz0
                go_wp2
                go_ret2
                exact ⟨B4.out.drew, _, _, rfl, Or.inl ⟨_, _, rfl⟩⟩
              · have e2 : (z == 0) = false := by simp [hz0]
                have DG := hide' (show smS Q (btX xs k) ≤ chF cs k by rw [HY.out]; exact (OZ.out.1.1 (by have := OZ.out.2; omega)).2)
                clear hz0
                have PP := GG.out.pile
                have CT := hide' (topple_any pb ca' q ta Q sn k 1 (btX xs) (chF cs) (fun _ => 0) w4.drew (HPX.out.on rfl rfl rfl) GG.out.ok.p2 HK.out ⟨by omega, by omega⟩ ⟨smS_nonneg fun j _ => PP.gr.pos k j, GG.out.ok.deg4 k⟩
                  (fun j => ⟨by unfold gvS; split; exact PP.gr.pos k j; exact Int.le_refl _, by
                    unfold gvS
                    split
                    · rename_i hj; exact smS_one (fun i _ => PP.gr.pos k i) hj.1
                    · exact smS_nonneg fun i _ => PP.gr.pos k i⟩)
                  (by have := GG.out.ok.deg4 k; omega) (fun j hj => by have := GG.out.bnd j hj; omega) ⟨by omega, by omega⟩)
                clear PP
                go_wp2_with fail
                refine CT.out.mono ?_
                rintro e w6 ⟨rfl, p6, t6⟩
                have K6 := hide' (show ∃ k' : Nat, (k : Int) = (k' : Int) ∧ k' < Q ∧ k' ≠ sn ∧ smS Q (btX xs k') ≤ chF cs k' ∧ PilAt w6 pb ca' q ta Q sn (btX xs) (tpF Q sn (btX xs) (chF cs) k' 1) (upI (fun _ => 0) k' (0 + 1)) ∧ Below w.heap.size w w6 from
                  ⟨k, rfl, HK.out, HKS.out, DG.out, p6, B4.out.drew.trans ⟨t6.1, t6.2.1, t6.2.2.1, by rw [t6.2.2.2.1]; exact Nat.le_refl _, fun j hj => t6.2.2.2.2 j (by have := GE.out; have := B2.out.size; omega) (by have := GE.out; have := B2.out.size; omega)⟩⟩)
                clear p6 t6
                go_wp2
                exact ⟨Or.inr ⟨by first | rfl | go_num, K6⟩, by simp [intOf]⟩
        · rw [inB_no hin]
          clear hin
          go_wp2
          go_ret2
          exact ⟨B4.out, _, _, rfl, Or.inl ⟨_, _, rfl⟩⟩
      · obtain ⟨k, h1, h2, h3, h4, hp, hb⟩ := KR.out
        have c0 := hp.chs
        have X := hide' (show ToppleOut w P xs s cs x (.returned (.tuple #[slS ca' Q q, .nilIface])) wr from
          ⟨hb, _, _, rfl, Or.inr ⟨rfl, Q, sn, k, ca', q, HQs.out.1, HQs.out.2, GG.out, h1, h2, h3, h4, rfl, hp.ch, by have := GE.out.2.1; have := B2.out.size; omega⟩⟩)
        clear KR h1 h2 h3 h4 hp hb
        go_wp2
        go_ret2
        exact X.out
  · have EF := hide' (errOf_not h0)
    rw [EF.out]
    clear h0
    go_wp2
    go_ret2
    exact ⟨B2.out, _, _, rfl, Or.inl ⟨_, _, rfl⟩⟩
end Go.Proofs.YtpajdmhgonmgoaaDoor

namespace Go.Proofs.YtpajdmhgonmgoaaDoor
set_option linter.unusedVariables false
theorem stillS.congC {n s : Nat} {b : Nat → Nat → Int} {c c' u : Nat → Int} (e : ∀ k, k < n → c k = c' k) (h : stillS n s b c u) : stillS n s b c' u := fun k hk ks => by rw [← e k hk]; exact h k hk ks
theorem PlS.congC {n s : Nat} {b : Nat → Nat → Int} {c c' u : Nat → Int} (e : ∀ k, k < n → c k = c' k) (h : PlS n s b c u) : PlS n s b c' u :=
  ⟨h.zero, h.pos, fun k hk ks => by rw [← e k hk]; exact h.has k hk ks, fun v hv hp hs k hk => h.least v hv hp (stillS.congC (fun k hk => (e k hk).symm) hs) k hk⟩
theorem chS.congC {n s : Nat} {b : Nat → Nat → Int} {c c' u : Nat → Int} (e : ∀ k, k < n → c k = c' k) {k : Nat} (hk : k < n) : chS n s b c u k = chS n s b c' u k := by
  unfold chS; rw [e k hk]
theorem chS.congU {n s : Nat} {b : Nat → Nat → Int} {c u u' : Nat → Int} (e : ∀ k, k < n → u k = u' k) {k : Nat} (hk : k < n) : chS n s b c u k = chS n s b c u' k := by
  unfold chS; rw [lap_congr e hk]
/-- One legal topple more. -/
theorem law_step {n s : Nat} {b : Nat → Nat → Int} {c v F : Nat → Int} (G : GrS n s b) (h : PlS n s b c v) (hF : ∀ k, k < n → F k = chS n s b c v k) {k : Nat} (hk : k < n) (ks : k ≠ s) (can : smS n (b k) ≤ F k) :
    PlS n s b c (upS v k 1) ∧ ∀ j, j < n → tpF n s b F k 1 j = chS n s b c (upS v k 1) j := by
  have can' : smS n (b k) ≤ c k - lapS n b v k := by
    rw [hF k hk] at can
    unfold chS at can
    rw [if_neg ks] at can
    exact can
  refine ⟨h.one G hk ks can', fun j hj => ?_⟩
  rw [← tpF_ch G hk 1 (fun e => absurd e ks) hj]
  unfold tpF
  rw [hF j hj]
/-- However they toppled: the end is one. -/
theorem law_end {n s : Nat} {b : Nat → Nat → Int} {c v F ua ub : Nat → Int} (G : GrS n s b) (ha : PlS n s b c ua) (sa : stillS n s b c ua) (hv : PlS n s b c v) (hF : ∀ k, k < n → F k = chS n s b c v k) (hb : PlS n s b F ub) (sb : stillS n s b F ub) :
    ∀ k, k < n → ub k + v k = ua k ∧ chS n s b F ub k = chS n s b c ua k := by
  have hb' := hb.congC hF
  have sb' := stillS.congC hF sb
  have p := hv.then hb'
  have q := still_then sb'
  have e : ∀ k, k < n → v k + ub k = ua k := fun k hk => p.same q ha sa k hk
  intro k hk
  refine ⟨by have := e k hk; omega, ?_⟩
  rw [chS.congC hF hk, ← chS.congU e hk]
  unfold chS
  by_cases ks : k = s
  · rw [if_pos ks, if_pos ks]
  · rw [if_neg ks, if_neg ks, if_neg ks]
    rw [lap_add]; omega
end Go.Proofs.YtpajdmhgonmgoaaDoor

