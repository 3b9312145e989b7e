/-
  What the last text of this claim leans on, part 25: Gc4.
-/
import Derived.Test.YtbkllhlapdmlfaaDoorQf11
import Derived.Test.YtbkllhlapdmlfaaDoorQf14
import Derived.Deep.CutRange
namespace Go.Proofs.YtbkllhlapdmlfaaDoor
open Go.RowKit
set_option linter.unusedVariables false
set_option maxRecDepth 100000 in
set_option maxHeartbeats 12800000 in
theorem gasRun_6 (W H : Nat) (f cs : Nat → Nat) (a : Option Addr) (n c : Nat) (b' : Option Addr) (m d' k : Nat) (w : World) (hP : ArgP w ((List.range n).map fun i => (f i : Int)) a n c) (hC : ArgP w ((List.range m).map fun i => (cs i : Int)) b' m d') (h0 : runGE 6 (W : Int) (H : Int) ((List.range n).map fun i => (f i : Int)) ((List.range m).map fun i => (cs i : Int)) (k : Int) = 0) (hn : n = W * H) (hW : 1 ≤ W ∧ W ≤ 100) (hH : 1 ≤ H ∧ H ≤ 100) (hf : ∀ i, f i ≤ 63) (hcs : ∀ i, cs i ≤ 1) (m1 : 1 ≤ m) (hk : k ≤ 100000) :
    Calls Tryd.prog 24 #[.agg #[.int .i64 6, .int .i64 (W : Int), .int .i64 (H : Int), .slice a n c], .slice b' m d', .int .i64 (k : Int)] w fun e w' => ∃ q, e = .returned (.tuple #[.agg #[.int .i64 6, .int .i64 (W : Int), .int .i64 (H : Int), .slice (some ⟨q, 0, none⟩) n n], .nilIface]) ∧ ArgP w' ((List.range n).map fun i => (flowG 6 W H m cs f k i : Int)) (some ⟨q, 0, none⟩) n n ∧ Below w.heap.size w w' := by
  obtain ⟨w1, hw1⟩ : ∃ w1, (w.alloc (.cells #[.int .i64 6, .int .i64 (W : Int), .int .i64 (H : Int), .slice a n c] 49)).alloc (.cells #[.int .i64 0, .int .i64 0, .int .i64 0, .slice none 0 0] 49) = w1 := ⟨_, rfl⟩
  have BB := hide' (show Below w.heap.size w w1 by rw [← hw1]; exact ((Below.refl _ _).alloc (Nat.le_refl _) _).alloc (by simp) _)
  have g1 : w1.heap[w.heap.size]? = some (.cells #[.int .i64 6, .int .i64 (W : Int), .int .i64 (H : Int), .slice a n c] 49 (0, 0)) := by rw [← hw1, Below.heap_alloc _ _ _ (by simp)]; exact heap_alloc_new _ _
  have g2 : w1.heap[w.heap.size + 1]? = some (.cells #[.int .i64 0, .int .i64 0, .int .i64 0, .slice none 0 0] 49 (0, 0)) := by rw [← hw1]; exact heap_atX _ _ _ (by simp)
  have s1 : w1.heap.size = w.heap.size + 1 + 1 := by rw [← hw1]; simp
  have n4 : n ≤ 10000 := by rw [hn]; exact Nat.mul_le_mul hW.2 hH.2
  have CC := hide' (checkRun_G 6 (W : Int) (H : Int) _ a n c _ b' m d' (k : Int) w1 (hP.below BB.out) (hC.below BB.out))
  rw [h0, show errOf 0 = .nilIface from rfl] at CC
  have SV := hide' (fun (V : World) (h : ∀ j, j < w1.heap.size → V.heap[j]? = w1.heap[j]?) => show V.cell? ⟨w.heap.size, 0, none⟩ = some (.int .i64 6) ∧ V.cell? ⟨w.heap.size, 1, none⟩ = some (.int .i64 (W : Int)) ∧ V.cell? ⟨w.heap.size, 2, none⟩ = some (.int .i64 (H : Int)) ∧ V.cell? ⟨w.heap.size, 3, none⟩ = some (.slice a n c) from by
    have e1 := (h _ (by omega)).trans g1
    exact ⟨cell_of_row V _ 0 _ _ _ e1, cell_of_row V _ 1 _ _ _ e1, cell_of_row V _ 2 _ _ _ e1, cell_of_row V _ 3 _ _ _ e1⟩)
  have PA := hide' (fun (V : World) (h : Below w.heap.size w V) => packed_any f a n c V (hP.below h) hf n4)
  have HCC := hide' (fun (V : World) (h : Below w.heap.size w V) => hC.below h)
  have ME := hide' (fun (V : World) => meetings_6 V)
  have SO := hide' (fun (V : World) => sources_any 6 W H a n c V (by omega) hW hH hn)
  have HMK := hide' (fun (V : World) => mk_cellG n n4 V)
  have HF := hide' hf
  have HCS := hide' hcs
  have NL := hide' hn
  have G2 := hide' g2
  obtain ⟨c0, c1, c2, c3⟩ := SV.out w1 (fun _ _ => rfl)
  clear hP hC h0 g1 g2 hf hcs hn
  go_enter Tryd.func24, Tryd.ntmps24
  go_upto_region 1 with fail
  clear hw1
  go_wp2_with fail
  refine CC.out.mono ?_
  rintro e w2 ⟨rfl, b⟩
  have B2 := hide' (BB.out.trans (b.mono BB.out.size))
  have K2 := hide' (fun j (hj : j < w1.heap.size) => b.block j hj)
  have z2 := b.size
  clear c0 c1 c2 c3 b
  obtain ⟨c0, c1, c2, c3⟩ := SV.out w2 K2.out
  go_upto_region 6 with fail
  have B3 := hide' B2.out
  have K3 := hide' K2.out
  obtain ⟨w3, rfl⟩ : ∃ w3, w3 = w2 := ⟨_, rfl⟩
  have CO := hide' (fun (V : World) (h : ∀ j, j < w3.heap.size → V.heap[j]? = w3.heap[j]?) => show ArgP V ((List.range m).map fun i => (cs i : Int)) b' m d' from (HCC.out w3 B3.out).keepB (fun z g off e => h g (by
    obtain ⟨g', off', e', hg', _⟩ := (HCC.out w3 B3.out).cells 0 z
    rw [e] at e'; cases e'; exact hg')))
  have CF := hide' (fun g off (h : b' = some ⟨g, off, none⟩) => show g < w3.heap.size from by
    obtain ⟨g', off', e', hg', _⟩ := (HCC.out w3 B3.out).cells 0 (by simp; omega)
    rw [h] at e'; cases e'; exact hg')
  have z3 := z2
  clear c0 c1 c2 c3 K2
  obtain ⟨c0, c1, c2, c3⟩ := SV.out w3 K3.out
  refine cut3G (P := fun gn gm V => Hid (NM w w3 V n gn gm f (fun _ => 0))) (Φ := ?PH) (fun CUT => ?mn) ?rs
  case mn =>
    have hmk := HMK.out
    go_region_held3 (fun U => U.cell? ⟨w.heap.size, 3, none⟩ = some (.slice a n c)) (first | exact (SV.out _ (fun j hj => (Below.heap_alloc _ _ _ (by omega)).trans (KA.out j hj))).2.2.2 | exact (SV.out _ KA.out).2.2.2 | exact (SV.out _ (fun j hj => (Below.heap_alloc _ _ _ (by omega)).trans (K3.out j hj))).2.2.2 | exact c3 | fail)
      (first
        | (go_at_call 62; refine (PA.out _ (by first | exact B3.out.drew | exact (B3.out.alloc B3.out.size _).drew | exact B3.out.drew.alloc B3.out.size _)).mono ?_; rintro e wa ⟨rfl, cu, ba⟩; have KA := hide' (fun j (hj : j < w1.heap.size) => show wa.heap[j]? = w1.heap[j]? from (ba.block j (by first | (simp; omega) | omega)).trans (by first | exact K3.out j hj | exact (Below.heap_alloc _ _ _ (by omega)).trans (K3.out j hj))); have ZA : w1.heap.size ≤ wa.heap.size := (by have := ba.size; first | omega | (simp at this; omega)); have PK := hide' cu; have BA := hide' ba; clear cu ba)
        | fail)
    · have LA := PK.out.lt
      have SA : w3.heap.size ≤ wa.heap.size := BA.out.size
      have T8 := hide' (show NM w w3 (wa.alloc (.cells (madeCells #[.int .u8 0] n) 143)) n w3.heap.size wa.heap.size f (fun _ => 0) from
        ⟨fun j hj => (Below.heap_alloc _ _ _ (by omega)).trans (BA.out.block j hj), PK.out.block (Below.heap_alloc _ _ _ LA), by rw [made_u8]; exact heap_alloc_new _ _, by have : w3.heap.size < wa.heap.size := LA; omega, Nat.le_refl _, SA, ((B3.out.drew).trans (BA.out.mono B3.out.size)).alloc (by have := B3.out.size; omega) _⟩)
      obtain ⟨V, hV⟩ : ∃ V, wa.alloc (.cells (madeCells #[.int .u8 0] n) 143) = V := ⟨_, rfl⟩
      obtain ⟨gm, hgm⟩ : ∃ g, wa.heap.size = g := ⟨_, rfl⟩
      obtain ⟨gn, hgn⟩ : ∃ g, w3.heap.size = g := ⟨_, rfl⟩
      rw [hV, hgm, hgn] at T8 ⊢
      exact CUT _ _ _ T8
    · have SA : w3.heap.size + 1 ≤ wa.heap.size := by have := BA.out.size; simpa using this
      have T8 := hide' (show NM w w3 wa n (w3.heap.size + 1) w3.heap.size f (fun _ => 0) from
        ⟨fun j hj => (BA.out.block j (by simp; omega)).trans (Below.heap_alloc _ _ _ hj), by have := PK.out; simpa using this, by
          refine CU.block (w := w3.alloc (.cells (madeCells #[.int .u8 0] n) 143)) ?_ (BA.out.block _ (by simp))
          rw [made_u8]; exact heap_alloc_new _ _, by omega, by omega, Nat.le_refl _, (B3.out.alloc B3.out.size _).drew.trans (BA.out.mono (by have := B3.out.size; simp; omega))⟩)
      obtain ⟨V, hV⟩ : ∃ V, wa = V := ⟨_, rfl⟩
      obtain ⟨gn, hgn⟩ : ∃ g, w3.heap.size + 1 = g := ⟨_, rfl⟩
      rw [hgn] at T8 ⊢
      obtain ⟨gm, hgm⟩ : ∃ g, w3.heap.size = g := ⟨_, rfl⟩
      rw [hV, hgm] at T8 ⊢
      exact CUT _ _ _ T8
  case rs =>
    intro gn gm V T6
    have KV := hide' (fun j (hj : j < w1.heap.size) => (T6.out.keep j (by omega)).trans (K3.out j hj))
    have zv : w3.heap.size ≤ V.heap.size := by have := T6.out.ln; have := T6.out.now.lt; omega
    clear c0 c1 c2 c3
    obtain ⟨c0, c1, c2, c3⟩ := SV.out V KV.out
    go_upto_region 7 with fail
    refine cut3G (P := fun ga gf U => Hid (RG w w3 U 6 W H n gn gm ga gf f (fun _ => 0))) (Φ := ?PH2) (fun CUT2 => ?mn2) ?rs2
    case mn2 =>
      have lgn := T6.out.now.lt
      have lgm := T6.out.met.lt
      go_region_held3 (fun U => U.cell? ⟨w.heap.size, 0, none⟩ = some (.int .i64 6) ∧ U.cell? ⟨w.heap.size, 1, none⟩ = some (.int .i64 (W : Int)) ∧ U.cell? ⟨w.heap.size, 2, none⟩ = some (.int .i64 (H : Int)) ∧ U.cell? ⟨w.heap.size, 3, none⟩ = some (.slice a n c)) (first | exact SV.out _ KB.out | exact SV.out _ KM.out | exact SV.out _ KS.out | exact ⟨c0, c1, c2, c3⟩ | fail)
        (first
          | (go_at_call 63; refine (ME.out _).mono ?_; rintro e wm ⟨rfl, am, bm⟩; have KM := hide' (fun j (hj : j < w1.heap.size) => show wm.heap[j]? = w1.heap[j]? from (by first | exact (bm.block j (show j < V.heap.size by omega)).trans (KV.out j hj) | exact (bm.block j (by omega)).trans (KS.out j hj))); have ZM : w1.heap.size ≤ wm.heap.size := (by have := bm.size; first | (have q : V.heap.size ≤ wm.heap.size := this; omega) | omega); have AM := hide' am; have BM := hide' bm; clear am bm)
          | (go_at_call 64; refine (SO.out _).mono ?_; rintro e ws ⟨rfl, as', bs⟩; have KS := hide' (fun j (hj : j < w1.heap.size) => show ws.heap[j]? = w1.heap[j]? from (by first | exact (bs.block j (show j < V.heap.size by omega)).trans (KV.out j hj) | exact (bs.block j (by omega)).trans (KM.out j hj))); have ZS : w1.heap.size ≤ ws.heap.size := (by have := bs.size; first | (have q : V.heap.size ≤ ws.heap.size := this; omega) | omega); have AS := hide' as'; have BS := hide' bs; clear as' bs)
          | fail)
      have b1 : Below V.heap.size V wm := ⟨BM.out.os, BM.out.tape, BM.out.output, BM.out.size, BM.out.block⟩
      have lm : V.heap.size < wm.heap.size := lt_of_block AM.out
      have T9 := hide' (show RG w w3 ws 6 W H n gn gm V.heap.size (wm.heap.size + 1) f (fun _ => 0) from
        ⟨(T6.out.next zv b1).next (by omega) BS.out, (BS.out.block _ lm).trans AM.out, AS.out, by omega, by omega, by omega, by omega⟩)
      obtain ⟨ga, hga⟩ : ∃ g, V.heap.size = g := ⟨_, rfl⟩
      obtain ⟨gf, hgf⟩ : ∃ g, wm.heap.size + 1 = g := ⟨_, rfl⟩
      rw [hga, hgf] at T9 ⊢
      exact CUT2 _ _ _ T9
    case rs2 =>
      intro ga gf U T7
      clear T6 KV zv c0 c1 c2 c3 CC PA HMK ME SO
      go_wp2
      go_loopw [13, 39] (fun fv iv wr => ∃ (i q : Nat) (g : Nat → Nat), iv = .int .i64 (i : Int) ∧ fv = .int .i64 (q : Int) ∧ i ≤ k ∧ q < m ∧ Hid (q = i * n % m) ∧ Hid (RG w w3 wr 6 W H n gn gm ga gf (flowG 6 W H m cs f i) g)) (fun _ iv _ => ((k : Int) - intOf iv).toNat)
      case atStart => exact ⟨0, 0, _, by go_num, by go_num, by omega, by omega, hide' (by simp), T7⟩
      case round =>
        obtain ⟨i, q, g, rfl, rfl, hi, hq, HQ, HR⟩ := hrel
        obtain ⟨R, rfl⟩ : ∃ R, R = wr := ⟨_, rfl⟩
        by_cases dk : (i : Int) < (k : Int)
        · have HFL := hide' (fun j => flow_le (K := 6) (W := W) (H := H) (m := m) (cs := cs) HF.out i j)
          have MC := hide' (meet_any (aftG 6) (flowG 6 W H m cs f i) g cs gm gn ga n m q w.heap.size b' d' R HR.out.nm.met HR.out.nm.now HR.out.nm.ne HR.out.a2 HR.out.aft (CO.out R HR.out.nm.keep) (fun g off e => by have := CF.out g off e; have := HR.out.nm.lm; omega) HCS.out HFL.out m1 hq n4 (by have := HR.out.nm.lm; have := B3.out.size; omega))
          have QN := hide' (show (q + n) % m = (i + 1) * n % m by rw [HQ.out, Nat.mod_add_mod, Nat.add_mul, Nat.one_mul])
          have QL : (q + n) % m < m := Nat.mod_lt _ (by omega)
          have ME2 := hide' (fun k => show aftG 6 ((cs) ((q + k) % m)) (flowG 6 W H m cs f i k) = metG 6 n m cs (flowG 6 W H m cs f i) i k by unfold metG; rw [HQ.out, Nat.mod_add_mod])
          obtain ⟨r, hr⟩ : ∃ r, (q + n) % m = r := ⟨_, rfl⟩
          rw [hr] at MC QN QL
          clear hr
          go_wp2_with fail
          refine MC.out.mono ?_
          rintro e r1 ⟨rfl, cu, kp, bl⟩
          have H1 := hide' (HR.out.meet (CU.ext cu (fun k _ => ME2.out k)) kp bl)
          clear cu kp bl
          have MV := hide' (move_any (metG 6 n m cs (flowG 6 W H m cs f i) i) (flowG 6 W H m cs f i) (srcG 6 W H) gn gm gf n w.heap.size r1 H1.out.nm.now H1.out.nm.met (fun e => H1.out.nm.ne e.symm) H1.out.f1 H1.out.org (fun i d => by rw [NL.out]; exact src_lt (by omega) hW.1 hH.1 i d) (fun j => aft_le (by omega) (HFL.out j) _) n4 (by have := H1.out.nm.ln; have := B3.out.size; omega))
          go_wp2_with fail
          refine MV.out.mono ?_
          rintro e r2 ⟨rfl, cu, kp, bl⟩
          have H2 := hide' (show RG w w3 r2 6 W H n gn gm ga gf (flowG 6 W H m cs f (i + 1)) _ from H1.out.move (CU.ext cu (fun k _ => by rw [flowG, ← NL.out])) kp bl)
          clear cu kp bl
          go_wp2
          exact ⟨⟨i + 1, r, _, by go_num, by go_num, by omega, QL, hide' QN.out, H2⟩, by simp [intOf]; omega⟩
        · have ik : i = k := by omega
          subst ik
          have KR := hide' (fun j (hj : j < w1.heap.size) => (HR.out.nm.keep j (by omega)).trans (K3.out j hj))
          obtain ⟨c0, c1, c2, c3⟩ := SV.out R KR.out
          have UC := hide' (unpacked_any 6 (W : Int) (H : Int) a n c gn n (flowG 6 W H m cs f i) R HR.out.nm.now (fun j => flow_le HF.out i j) n4)
          go_wp2_with fail
          refine UC.out.mono ?_
          rintro e r1 ⟨q2, rfl, hq2, ap, bl⟩
          have e2 := ((bl.block (w.heap.size + 1) (by have := HR.out.nm.ln; have := HR.out.nm.now.lt; omega)).trans (KR.out _ (by omega))).trans G2.out
          have r0 := cell_of_row r1 _ 0 _ _ _ e2
          have r1' := cell_of_row r1 _ 1 _ _ _ e2
          have r2 := cell_of_row r1 _ 2 _ _ _ e2
          have r3 := cell_of_row r1 _ 3 _ _ _ e2
          simp at r0 r1' r2 r3
          have f0 := frozen_of_row r1 _ 0 _ _ e2
          have f1 := frozen_of_row r1 _ 1 _ _ e2
          have f2 := frozen_of_row r1 _ 2 _ _ e2
          have f3 := frozen_of_row r1 _ 3 _ _ e2
          have l1 := lt_of_block e2
          have AQ := hide' ap
          have BQ := hide' (HR.out.nm.below.trans (bl.mono HR.out.nm.below.size))
          have QB : w.heap.size + 1 < q2 := by have := HR.out.nm.ln; have := HR.out.nm.now.lt; omega
          clear ap bl e2 c0 c1 c2 c3
          go_wp2
          refine bodyPost_ret (v := .tuple #[.agg #[.int .i64 6, .int .i64 (W : Int), .int .i64 (H : Int), .slice (some ⟨q2, 0, none⟩) n n], .nilIface]) (by simp [results, Tryd.results24, go_sem, r0, r1', r2, r3]) rfl ?_
          refine ⟨q2, rfl, AQ.out.keepB (fun z g off e => ?_), (((BQ.out.setCell (by simp) _).setCell (by simp) _).setCell (by simp) _).setCell (by simp) _⟩
          cases e
          rw [Below.heap_setCell _ _ _ _ (by simp; omega), Below.heap_setCell _ _ _ _ (by simp; omega), Below.heap_setCell _ _ _ _ (by simp; omega), Below.heap_setCell _ _ _ _ (by simp; omega)]
end Go.Proofs.YtbkllhlapdmlfaaDoor

