/-
  What the last text of this claim leans on, part 26: Gc5, Gc6.
-/
import Derived.Test.YtbkllhlapdmlfaaDoorQf11
import Derived.Test.YtbkllhlapdmlfaaDoorQf14
import Derived.Deep.CutRange
namespace Go.Proofs.YtbkllhlapdmlfaaDoor
open Go.RowKit
set_option linter.unusedVariables false
theorem tn_le4 : ∀ c : Fin 16, tnG 4 2 c.val ≤ 63 := by decide +kernel
set_option maxRecDepth 100000 in
set_option maxHeartbeats 12800000 in
theorem gasTurned_4 (W H : Nat) (f : Nat → Nat) (a : Option Addr) (n c : Nat) (w : World) (hP : ArgP w ((List.range n).map fun i => (f i : Int)) a n c) (h0 : gasE 4 (W : Int) (H : Int) ((List.range n).map fun i => (f i : Int)) = 0) (hn : n = W * H) (hW : 1 ≤ W ∧ W ≤ 100) (hH : 1 ≤ H ∧ H ≤ 100) (hf : ∀ i, f i < 16) :
    Calls Tryd.prog 29 #[.agg #[.int .i64 4, .int .i64 (W : Int), .int .i64 (H : Int), .slice a n c]] w fun e w' => ∃ q, e = .returned (.tuple #[.agg #[.int .i64 4, .int .i64 (W : Int), .int .i64 (H : Int), .slice (some ⟨q, 0, none⟩) n n], .nilIface]) ∧ ArgP w' ((List.range n).map fun i => (mvF (fun k => tnG 4 2 (f k)) (srcG 4 W H) i : Int)) (some ⟨q, 0, none⟩) n n ∧ Below w.heap.size w w' := by
  obtain ⟨w1, hw1⟩ : ∃ w1, (w.alloc (.cells #[.int .i64 4, .int .i64 (W : Int), .int .i64 (H : Int), .slice a n c] 49)).alloc (.cells #[.int .i64 0, .int .i64 0, .int .i64 0, .slice none 0 0] 49) = w1 := ⟨_, rfl⟩
  have BB := hide' (show Below w.heap.size w w1 by rw [← hw1]; exact ((Below.refl _ _).alloc (Nat.le_refl _) _).alloc (by simp) _)
  have g1 : w1.heap[w.heap.size]? = some (.cells #[.int .i64 4, .int .i64 (W : Int), .int .i64 (H : Int), .slice a n c] 49 (0, 0)) := by rw [← hw1, Below.heap_alloc _ _ _ (by simp)]; exact heap_alloc_new _ _
  have g2 : w1.heap[w.heap.size + 1]? = some (.cells #[.int .i64 0, .int .i64 0, .int .i64 0, .slice none 0 0] 49 (0, 0)) := by rw [← hw1]; exact heap_atX _ _ _ (by simp)
  have s1 : w1.heap.size = w.heap.size + 1 + 1 := by rw [← hw1]; simp
  have n4 : n ≤ 10000 := by rw [hn]; exact Nat.mul_le_mul hW.2 hH.2
  have CC := hide' (Check_G 4 (W : Int) (H : Int) _ a n c w1 (hP.below BB.out))
  rw [h0, show errOf 0 = .nilIface from rfl] at CC
  have SV := hide' (fun (V : World) (h : ∀ j, j < w1.heap.size → V.heap[j]? = w1.heap[j]?) => show V.cell? ⟨w.heap.size, 0, none⟩ = some (.int .i64 4) ∧ V.cell? ⟨w.heap.size, 1, none⟩ = some (.int .i64 (W : Int)) ∧ V.cell? ⟨w.heap.size, 2, none⟩ = some (.int .i64 (H : Int)) ∧ V.cell? ⟨w.heap.size, 3, none⟩ = some (.slice a n c) from by
    have e1 := (h _ (by omega)).trans g1
    exact ⟨cell_of_row V _ 0 _ _ _ e1, cell_of_row V _ 1 _ _ _ e1, cell_of_row V _ 2 _ _ _ e1, cell_of_row V _ 3 _ _ _ e1⟩)
  have PA := hide' (fun (V : World) (h : Below w.heap.size w V) => packed_any f a n c V (hP.below h) (fun i => by have := hf i; omega) n4)
  have SO := hide' (fun (V : World) => sources_any 4 W H a n c V (by omega) hW hH hn)
  have HMK := hide' (fun (V : World) => mk_cellG n n4 V)
  have HF := hide' hf
  have NL := hide' hn
  have G2 := hide' g2
  obtain ⟨c0, c1, c2, c3⟩ := SV.out w1 (fun _ _ => rfl)
  clear hP h0 g1 g2 hf hn
  go_enter Tryd.func29, Tryd.ntmps29
  go_upto_region 1 with fail
  clear hw1
  go_wp2_with fail
  refine CC.out.mono ?_
  rintro e w3 ⟨rfl, b⟩
  have B3 := hide' (BB.out.trans (b.mono BB.out.size))
  have K3 := hide' (fun j (hj : j < w1.heap.size) => b.block j hj)
  have z3 := b.size
  clear c0 c1 c2 c3 b
  obtain ⟨c0, c1, c2, c3⟩ := SV.out w3 K3.out
  go_upto_region 4 with fail
  refine cut3G (P := fun gn gm V => Hid (NM w w3 V n gn gm (fun _ => 0) f)) (Φ := ?PH) (fun CUT => ?mn) ?rs
  case mn =>
    have hmk := HMK.out
    go_region_held3 (fun U => U.cell? ⟨w.heap.size, 3, none⟩ = some (.slice a n c)) (first | exact (SV.out _ (fun j hj => (Below.heap_alloc _ _ _ (by omega)).trans (KA.out j hj))).2.2.2 | exact (SV.out _ KA.out).2.2.2 | exact (SV.out _ (fun j hj => (Below.heap_alloc _ _ _ (by omega)).trans (K3.out j hj))).2.2.2 | exact c3 | fail)
      (first
        | (go_at_call 62; refine (PA.out _ (by first | exact B3.out.drew | exact (B3.out.alloc B3.out.size _).drew | exact B3.out.drew.alloc B3.out.size _)).mono ?_; rintro e wa ⟨rfl, cu, ba⟩; have KA := hide' (fun j (hj : j < w1.heap.size) => show wa.heap[j]? = w1.heap[j]? from (ba.block j (by first | (simp; omega) | omega)).trans (by first | exact K3.out j hj | exact (Below.heap_alloc _ _ _ (by omega)).trans (K3.out j hj))); have ZA : w1.heap.size ≤ wa.heap.size := (by have := ba.size; first | omega | (simp at this; omega)); have PK := hide' cu; have BA := hide' ba; clear cu ba)
        | fail)
    · first
      | (have SA : w3.heap.size + 1 ≤ wa.heap.size := (by have := BA.out.size; simpa using this)
         have T8 := hide' (show NM w w3 wa n w3.heap.size (w3.heap.size + 1) (fun _ => 0) f from
          ⟨fun j hj => (BA.out.block j (by simp; omega)).trans (Below.heap_alloc _ _ _ hj), (by
            refine CU.block (w := w3.alloc (.cells (madeCells #[.int .u8 0] n) 143)) ?_ (BA.out.block _ (by simp))
            rw [made_u8]; exact heap_alloc_new _ _), (by have := PK.out; simpa using this), by omega, Nat.le_refl _, by omega, (B3.out.alloc B3.out.size _).drew.trans (BA.out.mono (by have := B3.out.size; simp; omega))⟩)
         obtain ⟨V, hV⟩ : ∃ V, wa = V := ⟨_, rfl⟩
         obtain ⟨gm, hgm⟩ : ∃ g, w3.heap.size + 1 = g := ⟨_, rfl⟩
         rw [hgm] at T8 ⊢
         obtain ⟨gn, hgn⟩ : ∃ g, w3.heap.size = g := ⟨_, rfl⟩
         rw [hV, hgn] at T8 ⊢
         exact CUT _ _ _ T8)
    · have LA := PK.out.lt
      have SA : w3.heap.size ≤ wa.heap.size := BA.out.size
      have T8 := hide' (show NM w w3 (wa.alloc (.cells (madeCells #[.int .u8 0] n) 143)) n wa.heap.size w3.heap.size (fun _ => 0) f from
        ⟨fun j hj => (Below.heap_alloc _ _ _ (by omega)).trans (BA.out.block j hj), by rw [made_u8]; exact heap_alloc_new _ _, PK.out.block (Below.heap_alloc _ _ _ LA), by have : w3.heap.size < wa.heap.size := LA; omega, SA, Nat.le_refl _, ((B3.out.drew).trans (BA.out.mono B3.out.size)).alloc (by have := B3.out.size; omega) _⟩)
      obtain ⟨V, hV⟩ : ∃ V, wa.alloc (.cells (madeCells #[.int .u8 0] n) 143) = V := ⟨_, rfl⟩
      obtain ⟨gn, hgn⟩ : ∃ g, wa.heap.size = g := ⟨_, rfl⟩
      obtain ⟨gm, hgm⟩ : ∃ g, w3.heap.size = g := ⟨_, rfl⟩
      rw [hV, hgn, hgm] at T8 ⊢
      exact CUT _ _ _ T8
  case rs =>
    intro gn gm V T6
    clear c0 c1 c2 c3 CC PA HMK
    go_wp2
    go_loopw [24] (fun iv wr => ∃ (i : Nat), iv = .int .i64 (i : Int) ∧ i ≤ n ∧ Hid (NM w w3 wr n gn gm (fun _ => 0) (fun k => if k < i then tnG 4 2 (f k) else f k))) (fun iv _ => ((n : Int) - intOf iv).toNat)
    case atStart => exact ⟨0, by go_num, by omega, hide' (by simp only [Nat.not_lt_zero, if_false]; exact T6.out)⟩
    case round =>
      obtain ⟨i, rfl, hi, HR⟩ := hrel
      obtain ⟨R, rfl⟩ : ∃ R, R = wr := ⟨_, rfl⟩
      have KR := hide' (fun j (hj : j < w1.heap.size) => (HR.out.keep j (by omega)).trans (K3.out j hj))
      obtain ⟨c0, c1, c2, c3⟩ := SV.out R KR.out
      by_cases di : (i : Int) < (n : Int)
      · have il : i < n := by omega
        have cc := HR.out.met.cell il
        rw [if_neg (by omega)] at cc
        have fl := HF.out i
        have fr := HR.out.met.free i
        have lt := HR.out.met.lt
        have TC := hide' (fun U => turned_42 (f i) U fl)
        have NR := hide' (show NM w w3 ((R.setCell ⟨gm, i, none⟩ (.int .u8 ((tnG 4 2 (f i) : Nat) : Int))).drew) n gn gm (fun _ => 0) (fun k => if k < i + 1 then tnG 4 2 (f k) else f k) from
          ⟨fun j hj => (Below.heap_setCell _ _ _ _ (by have := HR.out.lm; simp; omega)).trans (HR.out.keep j hj), HR.out.now.block (Below.heap_setCell _ _ _ _ HR.out.ne), (HR.out.met.set i _).ext (fun k _ => by
            by_cases e : k = i
            · subst e; rw [if_pos rfl, if_pos (by omega)]
            · rw [if_neg e]
              by_cases l : k < i
              · rw [if_pos l, if_pos (by omega)]
              · rw [if_neg l, if_neg (by omega)]), HR.out.ne, HR.out.ln, HR.out.lm, (HR.out.below.setCell (by have := HR.out.lm; have := B3.out.size; simp; omega) _).drew⟩)
        obtain ⟨x, hx⟩ : ∃ x, f i = x := ⟨_, rfl⟩
        rw [hx] at cc fl TC NR
        obtain ⟨y, hy⟩ : ∃ y, tnG 4 2 x = y := ⟨_, rfl⟩
        rw [hy] at TC NR
        clear hx hy
        go_wp2_with fail
        refine (TC.out _).mono ?_
        rintro e r1 ⟨rfl, rfl⟩
        go_wp2
        exact ⟨⟨i + 1, by go_num, by omega, NR⟩, by simp [intOf]; omega⟩
      · have ni : i = n := by omega
        have HE := hide' (show NM w w3 R n gn gm (fun _ => 0) (fun k => tnG 4 2 (f k)) from ⟨HR.out.keep, HR.out.now, HR.out.met.ext (fun k hk => if_pos (by omega)), HR.out.ne, HR.out.ln, HR.out.lm, HR.out.below⟩)
        clear ni
        go_wp2_with fail
        refine (SO.out _).mono ?_
        rintro e r1 ⟨rfl, og, bl⟩
        have zr : w3.heap.size ≤ R.heap.size := by have := HE.out.ln; have := HE.out.now.lt; omega
        have ln := HE.out.now.lt
        have lm := HE.out.met.lt
        have H1 := hide' (HE.out.next zr bl)
        have MV := hide' (move_any (fun k => tnG 4 2 (f k)) (fun _ => 0) (srcG 4 W H) gn gm (R.heap.size + 1) n w.heap.size r1 H1.out.now H1.out.met (fun e => H1.out.ne e.symm) (by omega) og (fun i d => by rw [NL.out]; exact src_lt (by omega) hW.1 hH.1 i d) (fun j => tn_le4 ⟨f j, HF.out j⟩) n4 (by have := H1.out.ln; have := B3.out.size; omega))
        clear og bl c0 c1 c2 c3
        go_wp2_with fail
        refine MV.out.mono ?_
        rintro e r2 ⟨rfl, cu, kp, bl⟩
        have CU2 := hide' cu
        have K2 := hide' (fun j (hj : j < w3.heap.size) => (kp j (by have := H1.out.ln; omega)).trans (H1.out.keep j hj))
        have KR2 := hide' (fun j (hj : j < w1.heap.size) => (K2.out j (by omega)).trans (K3.out j hj))
        have B4 := hide' (H1.out.below.trans bl)
        clear cu kp bl
        obtain ⟨c0, c1, c2, c3⟩ := SV.out r2 KR2.out
        have UC := hide' (unpacked_any 4 (W : Int) (H : Int) a n c gn n _ r2 CU2.out (fun j => mvF_le _ _ j) n4)
        go_wp2_with fail
        refine UC.out.mono ?_
        rintro e r3 ⟨q2, rfl, hq2, ap, bl⟩
        have lw : w1.heap.size ≤ r2.heap.size := by have := CU2.out.lt; have := H1.out.ln; omega
        have e2 := ((bl.block (w.heap.size + 1) (by omega)).trans (KR2.out _ (by omega))).trans G2.out
        have r0 := cell_of_row r3 _ 0 _ _ _ e2
        have r1' := cell_of_row r3 _ 1 _ _ _ e2
        have r2' := cell_of_row r3 _ 2 _ _ _ e2
        have r3' := cell_of_row r3 _ 3 _ _ _ e2
        simp at r0 r1' r2' r3'
        have f0 := frozen_of_row r3 _ 0 _ _ e2
        have f1 := frozen_of_row r3 _ 1 _ _ e2
        have f2 := frozen_of_row r3 _ 2 _ _ e2
        have f3 := frozen_of_row r3 _ 3 _ _ e2
        have l1 := lt_of_block e2
        have AQ := hide' ap
        have BQ := hide' (B4.out.trans (bl.mono B4.out.size))
        have QB : w.heap.size + 1 < q2 := by omega
        clear ap bl e2 c0 c1 c2 c3
        go_wp2
        refine bodyPost_ret (v := .tuple #[.agg #[.int .i64 4, .int .i64 (W : Int), .int .i64 (H : Int), .slice (some ⟨q2, 0, none⟩) n n], .nilIface]) (by simp [results, Tryd.results29, go_sem, r0, r1', r2', r3']) rfl ?_
        refine ⟨q2, rfl, AQ.out.keepB (fun z g off e => ?_), (((BQ.out.setCell (by simp) _).setCell (by simp) _).setCell (by simp) _).setCell (by simp) _⟩
        cases e
        rw [Below.heap_setCell _ _ _ _ (by simp; omega), Below.heap_setCell _ _ _ _ (by simp; omega), Below.heap_setCell _ _ _ _ (by simp; omega), Below.heap_setCell _ _ _ _ (by simp; omega)]
end Go.Proofs.YtbkllhlapdmlfaaDoor

namespace Go.Proofs.YtbkllhlapdmlfaaDoor
open Go.RowKit
set_option linter.unusedVariables false
theorem tn_le6 : ∀ c : Fin 64, tnG 6 3 c.val ≤ 63 := by decide +kernel
set_option maxRecDepth 100000 in
set_option maxHeartbeats 12800000 in
theorem gasTurned_6 (W H : Nat) (f : Nat → Nat) (a : Option Addr) (n c : Nat) (w : World) (hP : ArgP w ((List.range n).map fun i => (f i : Int)) a n c) (h0 : gasE 6 (W : Int) (H : Int) ((List.range n).map fun i => (f i : Int)) = 0) (hn : n = W * H) (hW : 1 ≤ W ∧ W ≤ 100) (hH : 1 ≤ H ∧ H ≤ 100) (hf : ∀ i, f i < 64) :
    Calls Tryd.prog 29 #[.agg #[.int .i64 6, .int .i64 (W : Int), .int .i64 (H : Int), .slice a n c]] w fun e w' => ∃ q, e = .returned (.tuple #[.agg #[.int .i64 6, .int .i64 (W : Int), .int .i64 (H : Int), .slice (some ⟨q, 0, none⟩) n n], .nilIface]) ∧ ArgP w' ((List.range n).map fun i => (mvF (fun k => tnG 6 3 (f k)) (srcG 6 W H) i : Int)) (some ⟨q, 0, none⟩) n n ∧ Below w.heap.size w w' := by
  obtain ⟨w1, hw1⟩ : ∃ w1, (w.alloc (.cells #[.int .i64 6, .int .i64 (W : Int), .int .i64 (H : Int), .slice a n c] 49)).alloc (.cells #[.int .i64 0, .int .i64 0, .int .i64 0, .slice none 0 0] 49) = w1 := ⟨_, rfl⟩
  have BB := hide' (show Below w.heap.size w w1 by rw [← hw1]; exact ((Below.refl _ _).alloc (Nat.le_refl _) _).alloc (by simp) _)
  have g1 : w1.heap[w.heap.size]? = some (.cells #[.int .i64 6, .int .i64 (W : Int), .int .i64 (H : Int), .slice a n c] 49 (0, 0)) := by rw [← hw1, Below.heap_alloc _ _ _ (by simp)]; exact heap_alloc_new _ _
  have g2 : w1.heap[w.heap.size + 1]? = some (.cells #[.int .i64 0, .int .i64 0, .int .i64 0, .slice none 0 0] 49 (0, 0)) := by rw [← hw1]; exact heap_atX _ _ _ (by simp)
  have s1 : w1.heap.size = w.heap.size + 1 + 1 := by rw [← hw1]; simp
  have n4 : n ≤ 10000 := by rw [hn]; exact Nat.mul_le_mul hW.2 hH.2
  have CC := hide' (Check_G 6 (W : Int) (H : Int) _ a n c w1 (hP.below BB.out))
  rw [h0, show errOf 0 = .nilIface from rfl] at CC
  have SV := hide' (fun (V : World) (h : ∀ j, j < w1.heap.size → V.heap[j]? = w1.heap[j]?) => show V.cell? ⟨w.heap.size, 0, none⟩ = some (.int .i64 6) ∧ V.cell? ⟨w.heap.size, 1, none⟩ = some (.int .i64 (W : Int)) ∧ V.cell? ⟨w.heap.size, 2, none⟩ = some (.int .i64 (H : Int)) ∧ V.cell? ⟨w.heap.size, 3, none⟩ = some (.slice a n c) from by
    have e1 := (h _ (by omega)).trans g1
    exact ⟨cell_of_row V _ 0 _ _ _ e1, cell_of_row V _ 1 _ _ _ e1, cell_of_row V _ 2 _ _ _ e1, cell_of_row V _ 3 _ _ _ e1⟩)
  have PA := hide' (fun (V : World) (h : Below w.heap.size w V) => packed_any f a n c V (hP.below h) (fun i => by have := hf i; omega) n4)
  have SO := hide' (fun (V : World) => sources_any 6 W H a n c V (by omega) hW hH hn)
  have HMK := hide' (fun (V : World) => mk_cellG n n4 V)
  have HF := hide' hf
  have NL := hide' hn
  have G2 := hide' g2
  obtain ⟨c0, c1, c2, c3⟩ := SV.out w1 (fun _ _ => rfl)
  clear hP h0 g1 g2 hf hn
  go_enter Tryd.func29, Tryd.ntmps29
  go_upto_region 1 with fail
  clear hw1
  go_wp2_with fail
  refine CC.out.mono ?_
  rintro e w3 ⟨rfl, b⟩
  have B3 := hide' (BB.out.trans (b.mono BB.out.size))
  have K3 := hide' (fun j (hj : j < w1.heap.size) => b.block j hj)
  have z3 := b.size
  clear c0 c1 c2 c3 b
  obtain ⟨c0, c1, c2, c3⟩ := SV.out w3 K3.out
  go_upto_region 4 with fail
  refine cut3G (P := fun gn gm V => Hid (NM w w3 V n gn gm (fun _ => 0) f)) (Φ := ?PH) (fun CUT => ?mn) ?rs
  case mn =>
    have hmk := HMK.out
    go_region_held3 (fun U => U.cell? ⟨w.heap.size, 3, none⟩ = some (.slice a n c)) (first | exact (SV.out _ (fun j hj => (Below.heap_alloc _ _ _ (by omega)).trans (KA.out j hj))).2.2.2 | exact (SV.out _ KA.out).2.2.2 | exact (SV.out _ (fun j hj => (Below.heap_alloc _ _ _ (by omega)).trans (K3.out j hj))).2.2.2 | exact c3 | fail)
      (first
        | (go_at_call 62; refine (PA.out _ (by first | exact B3.out.drew | exact (B3.out.alloc B3.out.size _).drew | exact B3.out.drew.alloc B3.out.size _)).mono ?_; rintro e wa ⟨rfl, cu, ba⟩; have KA := hide' (fun j (hj : j < w1.heap.size) => show wa.heap[j]? = w1.heap[j]? from (ba.block j (by first | (simp; omega) | omega)).trans (by first | exact K3.out j hj | exact (Below.heap_alloc _ _ _ (by omega)).trans (K3.out j hj))); have ZA : w1.heap.size ≤ wa.heap.size := (by have := ba.size; first | omega | (simp at this; omega)); have PK := hide' cu; have BA := hide' ba; clear cu ba)
        | fail)
    · first
      | (have SA : w3.heap.size + 1 ≤ wa.heap.size := (by have := BA.out.size; simpa using this)
         have T8 := hide' (show NM w w3 wa n w3.heap.size (w3.heap.size + 1) (fun _ => 0) f from
          ⟨fun j hj => (BA.out.block j (by simp; omega)).trans (Below.heap_alloc _ _ _ hj), (by
            refine CU.block (w := w3.alloc (.cells (madeCells #[.int .u8 0] n) 143)) ?_ (BA.out.block _ (by simp))
            rw [made_u8]; exact heap_alloc_new _ _), (by have := PK.out; simpa using this), by omega, Nat.le_refl _, by omega, (B3.out.alloc B3.out.size _).drew.trans (BA.out.mono (by have := B3.out.size; simp; omega))⟩)
         obtain ⟨V, hV⟩ : ∃ V, wa = V := ⟨_, rfl⟩
         obtain ⟨gm, hgm⟩ : ∃ g, w3.heap.size + 1 = g := ⟨_, rfl⟩
         rw [hgm] at T8 ⊢
         obtain ⟨gn, hgn⟩ : ∃ g, w3.heap.size = g := ⟨_, rfl⟩
         rw [hV, hgn] at T8 ⊢
         exact CUT _ _ _ T8)
    · have LA := PK.out.lt
      have SA : w3.heap.size ≤ wa.heap.size := BA.out.size
      have T8 := hide' (show NM w w3 (wa.alloc (.cells (madeCells #[.int .u8 0] n) 143)) n wa.heap.size w3.heap.size (fun _ => 0) f from
        ⟨fun j hj => (Below.heap_alloc _ _ _ (by omega)).trans (BA.out.block j hj), by rw [made_u8]; exact heap_alloc_new _ _, PK.out.block (Below.heap_alloc _ _ _ LA), by have : w3.heap.size < wa.heap.size := LA; omega, SA, Nat.le_refl _, ((B3.out.drew).trans (BA.out.mono B3.out.size)).alloc (by have := B3.out.size; omega) _⟩)
      obtain ⟨V, hV⟩ : ∃ V, wa.alloc (.cells (madeCells #[.int .u8 0] n) 143) = V := ⟨_, rfl⟩
      obtain ⟨gn, hgn⟩ : ∃ g, wa.heap.size = g := ⟨_, rfl⟩
      obtain ⟨gm, hgm⟩ : ∃ g, w3.heap.size = g := ⟨_, rfl⟩
      rw [hV, hgn, hgm] at T8 ⊢
      exact CUT _ _ _ T8
  case rs =>
    intro gn gm V T6
    clear c0 c1 c2 c3 CC PA HMK
    go_wp2
    go_loopw [24] (fun iv wr => ∃ (i : Nat), iv = .int .i64 (i : Int) ∧ i ≤ n ∧ Hid (NM w w3 wr n gn gm (fun _ => 0) (fun k => if k < i then tnG 6 3 (f k) else f k))) (fun iv _ => ((n : Int) - intOf iv).toNat)
    case atStart => exact ⟨0, by go_num, by omega, hide' (by simp only [Nat.not_lt_zero, if_false]; exact T6.out)⟩
    case round =>
      obtain ⟨i, rfl, hi, HR⟩ := hrel
      obtain ⟨R, rfl⟩ : ∃ R, R = wr := ⟨_, rfl⟩
      have KR := hide' (fun j (hj : j < w1.heap.size) => (HR.out.keep j (by omega)).trans (K3.out j hj))
      obtain ⟨c0, c1, c2, c3⟩ := SV.out R KR.out
      by_cases di : (i : Int) < (n : Int)
      · have il : i < n := by omega
        have cc := HR.out.met.cell il
        rw [if_neg (by omega)] at cc
        have fl := HF.out i
        have fr := HR.out.met.free i
        have lt := HR.out.met.lt
        have TC := hide' (fun U => turned_63 (f i) U fl)
        have NR := hide' (show NM w w3 ((R.setCell ⟨gm, i, none⟩ (.int .u8 ((tnG 6 3 (f i) : Nat) : Int))).drew) n gn gm (fun _ => 0) (fun k => if k < i + 1 then tnG 6 3 (f k) else f k) from
          ⟨fun j hj => (Below.heap_setCell _ _ _ _ (by have := HR.out.lm; simp; omega)).trans (HR.out.keep j hj), HR.out.now.block (Below.heap_setCell _ _ _ _ HR.out.ne), (HR.out.met.set i _).ext (fun k _ => by
            by_cases e : k = i
            · subst e; rw [if_pos rfl, if_pos (by omega)]
            · rw [if_neg e]
              by_cases l : k < i
              · rw [if_pos l, if_pos (by omega)]
              · rw [if_neg l, if_neg (by omega)]), HR.out.ne, HR.out.ln, HR.out.lm, (HR.out.below.setCell (by have := HR.out.lm; have := B3.out.size; simp; omega) _).drew⟩)
        obtain ⟨x, hx⟩ : ∃ x, f i = x := ⟨_, rfl⟩
        rw [hx] at cc fl TC NR
        obtain ⟨y, hy⟩ : ∃ y, tnG 6 3 x = y := ⟨_, rfl⟩
        rw [hy] at TC NR
        clear hx hy
        go_wp2_with fail
        refine (TC.out _).mono ?_
        rintro e r1 ⟨rfl, rfl⟩
        go_wp2
        exact ⟨⟨i + 1, by go_num, by omega, NR⟩, by simp [intOf]; omega⟩
      · have ni : i = n := by omega
        have HE := hide' (show NM w w3 R n gn gm (fun _ => 0) (fun k => tnG 6 3 (f k)) from ⟨HR.out.keep, HR.out.now, HR.out.met.ext (fun k hk => if_pos (by omega)), HR.out.ne, HR.out.ln, HR.out.lm, HR.out.below⟩)
        clear ni
        go_wp2_with fail
        refine (SO.out _).mono ?_
        rintro e r1 ⟨rfl, og, bl⟩
        have zr : w3.heap.size ≤ R.heap.size := by have := HE.out.ln; have := HE.out.now.lt; omega
        have ln := HE.out.now.lt
        have lm := HE.out.met.lt
        have H1 := hide' (HE.out.next zr bl)
        have MV := hide' (move_any (fun k => tnG 6 3 (f k)) (fun _ => 0) (srcG 6 W H) gn gm (R.heap.size + 1) n w.heap.size r1 H1.out.now H1.out.met (fun e => H1.out.ne e.symm) (by omega) og (fun i d => by rw [NL.out]; exact src_lt (by omega) hW.1 hH.1 i d) (fun j => tn_le6 ⟨f j, HF.out j⟩) n4 (by have := H1.out.ln; have := B3.out.size; omega))
        clear og bl c0 c1 c2 c3
        go_wp2_with fail
        refine MV.out.mono ?_
        rintro e r2 ⟨rfl, cu, kp, bl⟩
        have CU2 := hide' cu
        have K2 := hide' (fun j (hj : j < w3.heap.size) => (kp j (by have := H1.out.ln; omega)).trans (H1.out.keep j hj))
        have KR2 := hide' (fun j (hj : j < w1.heap.size) => (K2.out j (by omega)).trans (K3.out j hj))
        have B4 := hide' (H1.out.below.trans bl)
        clear cu kp bl
        obtain ⟨c0, c1, c2, c3⟩ := SV.out r2 KR2.out
        have UC := hide' (unpacked_any 6 (W : Int) (H : Int) a n c gn n _ r2 CU2.out (fun j => mvF_le _ _ j) n4)
        go_wp2_with fail
        refine UC.out.mono ?_
        rintro e r3 ⟨q2, rfl, hq2, ap, bl⟩
        have lw : w1.heap.size ≤ r2.heap.size := by have := CU2.out.lt; have := H1.out.ln; omega
        have e2 := ((bl.block (w.heap.size + 1) (by omega)).trans (KR2.out _ (by omega))).trans G2.out
        have r0 := cell_of_row r3 _ 0 _ _ _ e2
        have r1' := cell_of_row r3 _ 1 _ _ _ e2
        have r2' := cell_of_row r3 _ 2 _ _ _ e2
        have r3' := cell_of_row r3 _ 3 _ _ _ e2
        simp at r0 r1' r2' r3'
        have f0 := frozen_of_row r3 _ 0 _ _ e2
        have f1 := frozen_of_row r3 _ 1 _ _ e2
        have f2 := frozen_of_row r3 _ 2 _ _ e2
        have f3 := frozen_of_row r3 _ 3 _ _ e2
        have l1 := lt_of_block e2
        have AQ := hide' ap
        have BQ := hide' (B4.out.trans (bl.mono B4.out.size))
        have QB : w.heap.size + 1 < q2 := by omega
        clear ap bl e2 c0 c1 c2 c3
        go_wp2
        refine bodyPost_ret (v := .tuple #[.agg #[.int .i64 6, .int .i64 (W : Int), .int .i64 (H : Int), .slice (some ⟨q2, 0, none⟩) n n], .nilIface]) (by simp [results, Tryd.results29, go_sem, r0, r1', r2', r3']) rfl ?_
        refine ⟨q2, rfl, AQ.out.keepB (fun z g off e => ?_), (((BQ.out.setCell (by simp) _).setCell (by simp) _).setCell (by simp) _).setCell (by simp) _⟩
        cases e
        rw [Below.heap_setCell _ _ _ _ (by simp; omega), Below.heap_setCell _ _ _ _ (by simp; omega), Below.heap_setCell _ _ _ _ (by simp; omega), Below.heap_setCell _ _ _ _ (by simp; omega)]
end Go.Proofs.YtbkllhlapdmlfaaDoor

