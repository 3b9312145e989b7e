/-
  What the last text of this claim leans on, part 19: Gc5, LawGk1, LawGk2.
-/
import Derived.Test.YtbkllhlapdmlfaaQg11
import Derived.Test.YtbkllhlapdmlfaaQg16
import Derived.Test.YtbkllhlapdmlfaaQg4
import Derived.Test.YtbkllhlapdmlfaaQg17
import Derived.Test.YtbkllhlapdmlfaaQg18
import Derived.Test.YtbkllhlapdmlfaaQg14
import Derived.Deep.CutRange
namespace Go.Proofs.Ytbkllhlapdmlfaa
open Go.RowKit
set_option linter.unusedVariables false
theorem tn_le4 : ∀ c : Fin 16, tnG 4 2 c.val ≤ 63 := by decide +kernel
set_option maxRecDepth 100000 in
set_option maxHeartbeats 12800000 in
theorem gasTurned_4 (W H : Nat) (f : Nat → Nat) (a : Option Addr) (n c : Nat) (w : World) (hP : ArgP w ((List.range n).map fun i => (f i : Int)) a n c) (h0 : gasE 4 (W : Int) (H : Int) ((List.range n).map fun i => (f i : Int)) = 0) (hn : n = W * H) (hW : 1 ≤ W ∧ W ≤ 100) (hH : 1 ≤ H ∧ H ≤ 100) (hf : ∀ i, f i < 16) :
    Calls Try.prog 9 #[.agg #[.int .i64 4, .int .i64 (W : Int), .int .i64 (H : Int), .slice a n c]] w fun e w' => ∃ q, e = .returned (.tuple #[.agg #[.int .i64 4, .int .i64 (W : Int), .int .i64 (H : Int), .slice (some ⟨q, 0, none⟩) n n], .nilIface]) ∧ ArgP w' ((List.range n).map fun i => (mvF (fun k => tnG 4 2 (f k)) (srcG 4 W H) i : Int)) (some ⟨q, 0, none⟩) n n ∧ Below w.heap.size w w' := by
  obtain ⟨w1, hw1⟩ : ∃ w1, (w.alloc (.cells #[.int .i64 4, .int .i64 (W : Int), .int .i64 (H : Int), .slice a n c] 24)).alloc (.cells #[.int .i64 0, .int .i64 0, .int .i64 0, .slice none 0 0] 24) = w1 := ⟨_, rfl⟩
  have BB := hide' (show Below w.heap.size w w1 by rw [← hw1]; exact ((Below.refl _ _).alloc (Nat.le_refl _) _).alloc (by simp) _)
  have g1 : w1.heap[w.heap.size]? = some (.cells #[.int .i64 4, .int .i64 (W : Int), .int .i64 (H : Int), .slice a n c] 24 (0, 0)) := by rw [← hw1, Below.heap_alloc _ _ _ (by simp)]; exact heap_alloc_new _ _
  have g2 : w1.heap[w.heap.size + 1]? = some (.cells #[.int .i64 0, .int .i64 0, .int .i64 0, .slice none 0 0] 24 (0, 0)) := by rw [← hw1]; exact heap_atX _ _ _ (by simp)
  have s1 : w1.heap.size = w.heap.size + 1 + 1 := by rw [← hw1]; simp
  have n4 : n ≤ 10000 := by rw [hn]; exact Nat.mul_le_mul hW.2 hH.2
  have CC := hide' (Check_G 4 (W : Int) (H : Int) _ a n c w1 (hP.below BB.out))
  rw [h0, show errOf 0 = .nilIface from rfl] at CC
  have SV := hide' (fun (V : World) (h : ∀ j, j < w1.heap.size → V.heap[j]? = w1.heap[j]?) => show V.cell? ⟨w.heap.size, 0, none⟩ = some (.int .i64 4) ∧ V.cell? ⟨w.heap.size, 1, none⟩ = some (.int .i64 (W : Int)) ∧ V.cell? ⟨w.heap.size, 2, none⟩ = some (.int .i64 (H : Int)) ∧ V.cell? ⟨w.heap.size, 3, none⟩ = some (.slice a n c) from by
    have e1 := (h _ (by omega)).trans g1
    exact ⟨cell_of_row V _ 0 _ _ _ e1, cell_of_row V _ 1 _ _ _ e1, cell_of_row V _ 2 _ _ _ e1, cell_of_row V _ 3 _ _ _ e1⟩)
  have PA := hide' (fun (V : World) (h : Below w.heap.size w V) => packed_any f a n c V (hP.below h) (fun i => by have := hf i; omega) n4)
  have SO := hide' (fun (V : World) => sources_any 4 W H a n c V (by omega) hW hH hn)
  have HMK := hide' (fun (V : World) => mk_cellG n n4 V)
  have HF := hide' hf
  have NL := hide' hn
  have G2 := hide' g2
  obtain ⟨c0, c1, c2, c3⟩ := SV.out w1 (fun _ _ => rfl)
  clear hP h0 g1 g2 hf hn
  go_enter Try.func9, Try.ntmps9
  go_upto_region 1 with fail
  clear hw1
  go_wp2_with fail
  refine CC.out.mono ?_
  rintro e w3 ⟨rfl, b⟩
  have B3 := hide' (BB.out.trans (b.mono BB.out.size))
  have K3 := hide' (fun j (hj : j < w1.heap.size) => b.block j hj)
  have z3 := b.size
  clear c0 c1 c2 c3 b
  obtain ⟨c0, c1, c2, c3⟩ := SV.out w3 K3.out
  go_upto_region 4 with fail
  refine cut3G (P := fun gn gm V => Hid (NM w w3 V n gn gm (fun _ => 0) f)) (Φ := ?PH) (fun CUT => ?mn) ?rs
  case mn =>
    have hmk := HMK.out
    go_region_held3 (fun U => U.cell? ⟨w.heap.size, 3, none⟩ = some (.slice a n c)) (first | exact (SV.out _ (fun j hj => (Below.heap_alloc _ _ _ (by omega)).trans (KA.out j hj))).2.2.2 | exact (SV.out _ KA.out).2.2.2 | exact (SV.out _ (fun j hj => (Below.heap_alloc _ _ _ (by omega)).trans (K3.out j hj))).2.2.2 | exact c3 | fail)
      (first
        | (go_at_call 18; refine (PA.out _ (by first | exact B3.out.drew | exact (B3.out.alloc B3.out.size _).drew | exact B3.out.drew.alloc B3.out.size _)).mono ?_; rintro e wa ⟨rfl, cu, ba⟩; have KA := hide' (fun j (hj : j < w1.heap.size) => show wa.heap[j]? = w1.heap[j]? from (ba.block j (by first | (simp; omega) | omega)).trans (by first | exact K3.out j hj | exact (Below.heap_alloc _ _ _ (by omega)).trans (K3.out j hj))); have ZA : w1.heap.size ≤ wa.heap.size := (by have := ba.size; first | omega | (simp at this; omega)); have PK := hide' cu; have BA := hide' ba; clear cu ba)
        | fail)
    · first
      | (have SA : w3.heap.size + 1 ≤ wa.heap.size := (by have := BA.out.size; simpa using this)
         have T8 := hide' (show NM w w3 wa n w3.heap.size (w3.heap.size + 1) (fun _ => 0) f from
          ⟨fun j hj => (BA.out.block j (by simp; omega)).trans (Below.heap_alloc _ _ _ hj), (by
            refine CU.block (w := w3.alloc (.cells (madeCells #[.int .u8 0] n) 65)) ?_ (BA.out.block _ (by simp))
            rw [made_u8]; exact heap_alloc_new _ _), (by have := PK.out; simpa using this), by omega, Nat.le_refl _, by omega, (B3.out.alloc B3.out.size _).drew.trans (BA.out.mono (by have := B3.out.size; simp; omega))⟩)
         obtain ⟨V, hV⟩ : ∃ V, wa = V := ⟨_, rfl⟩
         obtain ⟨gm, hgm⟩ : ∃ g, w3.heap.size + 1 = g := ⟨_, rfl⟩
         rw [hgm] at T8 ⊢
         obtain ⟨gn, hgn⟩ : ∃ g, w3.heap.size = g := ⟨_, rfl⟩
         rw [hV, hgn] at T8 ⊢
         exact CUT _ _ _ T8)
    · have LA := PK.out.lt
      have SA : w3.heap.size ≤ wa.heap.size := BA.out.size
      have T8 := hide' (show NM w w3 (wa.alloc (.cells (madeCells #[.int .u8 0] n) 65)) n wa.heap.size w3.heap.size (fun _ => 0) f from
        ⟨fun j hj => (Below.heap_alloc _ _ _ (by omega)).trans (BA.out.block j hj), by rw [made_u8]; exact heap_alloc_new _ _, PK.out.block (Below.heap_alloc _ _ _ LA), by have : w3.heap.size < wa.heap.size := LA; omega, SA, Nat.le_refl _, ((B3.out.drew).trans (BA.out.mono B3.out.size)).alloc (by have := B3.out.size; omega) _⟩)
      obtain ⟨V, hV⟩ : ∃ V, wa.alloc (.cells (madeCells #[.int .u8 0] n) 65) = V := ⟨_, rfl⟩
      obtain ⟨gn, hgn⟩ : ∃ g, wa.heap.size = g := ⟨_, rfl⟩
      obtain ⟨gm, hgm⟩ : ∃ g, w3.heap.size = g := ⟨_, rfl⟩
      rw [hV, hgn, hgm] at T8 ⊢
      exact CUT _ _ _ T8
  case rs =>
    intro gn gm V T6
    clear c0 c1 c2 c3 CC PA HMK
    go_wp2
    go_loopw [24] (fun iv wr => ∃ (i : Nat), iv = .int .i64 (i : Int) ∧ i ≤ n ∧ Hid (NM w w3 wr n gn gm (fun _ => 0) (fun k => if k < i then tnG 4 2 (f k) else f k))) (fun iv _ => ((n : Int) - intOf iv).toNat)
    case atStart => exact ⟨0, by go_num, by omega, hide' (by simp only [Nat.not_lt_zero, if_false]; exact T6.out)⟩
    case round =>
      obtain ⟨i, rfl, hi, HR⟩ := hrel
      obtain ⟨R, rfl⟩ : ∃ R, R = wr := ⟨_, rfl⟩
      have KR := hide' (fun j (hj : j < w1.heap.size) => (HR.out.keep j (by omega)).trans (K3.out j hj))
      obtain ⟨c0, c1, c2, c3⟩ := SV.out R KR.out
      by_cases di : (i : Int) < (n : Int)
      · have il : i < n := by omega
        have cc := HR.out.met.cell il
        rw [if_neg (by omega)] at cc
        have fl := HF.out i
        have fr := HR.out.met.free i
        have lt := HR.out.met.lt
        have TC := hide' (fun U => turned_42 (f i) U fl)
        have NR := hide' (show NM w w3 ((R.setCell ⟨gm, i, none⟩ (.int .u8 ((tnG 4 2 (f i) : Nat) : Int))).drew) n gn gm (fun _ => 0) (fun k => if k < i + 1 then tnG 4 2 (f k) else f k) from
          ⟨fun j hj => (Below.heap_setCell _ _ _ _ (by have := HR.out.lm; simp; omega)).trans (HR.out.keep j hj), HR.out.now.block (Below.heap_setCell _ _ _ _ HR.out.ne), (HR.out.met.set i _).ext (fun k _ => by
            by_cases e : k = i
            · subst e; rw [if_pos rfl, if_pos (by omega)]
            · rw [if_neg e]
              by_cases l : k < i
              · rw [if_pos l, if_pos (by omega)]
              · rw [if_neg l, if_neg (by omega)]), HR.out.ne, HR.out.ln, HR.out.lm, (HR.out.below.setCell (by have := HR.out.lm; have := B3.out.size; simp; omega) _).drew⟩)
        obtain ⟨x, hx⟩ : ∃ x, f i = x := ⟨_, rfl⟩
        rw [hx] at cc fl TC NR
        obtain ⟨y, hy⟩ : ∃ y, tnG 4 2 x = y := ⟨_, rfl⟩
        rw [hy] at TC NR
        clear hx hy
        go_wp2_with fail
        refine (TC.out _).mono ?_
        rintro e r1 ⟨rfl, rfl⟩
        go_wp2
        exact ⟨⟨i + 1, by go_num, by omega, NR⟩, by simp [intOf]; omega⟩
      · have ni : i = n := by omega
        have HE := hide' (show NM w w3 R n gn gm (fun _ => 0) (fun k => tnG 4 2 (f k)) from ⟨HR.out.keep, HR.out.now, HR.out.met.ext (fun k hk => if_pos (by omega)), HR.out.ne, HR.out.ln, HR.out.lm, HR.out.below⟩)
        clear ni
        go_wp2_with fail
        refine (SO.out _).mono ?_
        rintro e r1 ⟨rfl, og, bl⟩
        have zr : w3.heap.size ≤ R.heap.size := by have := HE.out.ln; have := HE.out.now.lt; omega
        have ln := HE.out.now.lt
        have lm := HE.out.met.lt
        have H1 := hide' (HE.out.next zr bl)
        have MV := hide' (move_any (fun k => tnG 4 2 (f k)) (fun _ => 0) (srcG 4 W H) gn gm (R.heap.size + 1) n w.heap.size r1 H1.out.now H1.out.met (fun e => H1.out.ne e.symm) (by omega) og (fun i d => by rw [NL.out]; exact src_lt (by omega) hW.1 hH.1 i d) (fun j => tn_le4 ⟨f j, HF.out j⟩) n4 (by have := H1.out.ln; have := B3.out.size; omega))
        clear og bl c0 c1 c2 c3
        go_wp2_with fail
        refine MV.out.mono ?_
        rintro e r2 ⟨rfl, cu, kp, bl⟩
        have CU2 := hide' cu
        have K2 := hide' (fun j (hj : j < w3.heap.size) => (kp j (by have := H1.out.ln; omega)).trans (H1.out.keep j hj))
        have KR2 := hide' (fun j (hj : j < w1.heap.size) => (K2.out j (by omega)).trans (K3.out j hj))
        have B4 := hide' (H1.out.below.trans bl)
        clear cu kp bl
        obtain ⟨c0, c1, c2, c3⟩ := SV.out r2 KR2.out
        have UC := hide' (unpacked_any 4 (W : Int) (H : Int) a n c gn n _ r2 CU2.out (fun j => mvF_le _ _ j) n4)
        go_wp2_with fail
        refine UC.out.mono ?_
        rintro e r3 ⟨q2, rfl, hq2, ap, bl⟩
        have lw : w1.heap.size ≤ r2.heap.size := by have := CU2.out.lt; have := H1.out.ln; omega
        have e2 := ((bl.block (w.heap.size + 1) (by omega)).trans (KR2.out _ (by omega))).trans G2.out
        have r0 := cell_of_row r3 _ 0 _ _ _ e2
        have r1' := cell_of_row r3 _ 1 _ _ _ e2
        have r2' := cell_of_row r3 _ 2 _ _ _ e2
        have r3' := cell_of_row r3 _ 3 _ _ _ e2
        simp at r0 r1' r2' r3'
        have f0 := frozen_of_row r3 _ 0 _ _ e2
        have f1 := frozen_of_row r3 _ 1 _ _ e2
        have f2 := frozen_of_row r3 _ 2 _ _ e2
        have f3 := frozen_of_row r3 _ 3 _ _ e2
        have l1 := lt_of_block e2
        have AQ := hide' ap
        have BQ := hide' (B4.out.trans (bl.mono B4.out.size))
        have QB : w.heap.size + 1 < q2 := by omega
        clear ap bl e2 c0 c1 c2 c3
        go_wp2
        refine bodyPost_ret (v := .tuple #[.agg #[.int .i64 4, .int .i64 (W : Int), .int .i64 (H : Int), .slice (some ⟨q2, 0, none⟩) n n], .nilIface]) (by simp [results, Try.results9, go_sem, r0, r1', r2', r3']) rfl ?_
        refine ⟨q2, rfl, AQ.out.keepB (fun z g off e => ?_), (((BQ.out.setCell (by simp) _).setCell (by simp) _).setCell (by simp) _).setCell (by simp) _⟩
        cases e
        rw [Below.heap_setCell _ _ _ _ (by simp; omega), Below.heap_setCell _ _ _ _ (by simp; omega), Below.heap_setCell _ _ _ _ (by simp; omega), Below.heap_setCell _ _ _ _ (by simp; omega)]
end Go.Proofs.Ytbkllhlapdmlfaa

namespace Go.Proofs.Ytbkllhlapdmlfaa
open Go.RowKit
set_option linter.unusedVariables false
theorem fact7 (V : World) (g : Nat) (hg : V.heap[g]? = some (.cells #[.int .i64 7] 3 (0, 0))) : Calls Try.prog 6 #[.agg #[.int .i64 4, .int .i64 1, .int .i64 1, .slice (some ⟨g, 0, none⟩) 1 1]] V fun e w' => e = .returned (.tuple #[.int .i64 3, .nilIface]) ∧ Below V.heap.size V w' := by
  refine (mass_good 4 1 1 (fun _ => 7) (some ⟨g, 0, none⟩) 1 1 V ⟨rfl, by unfold maxLen; omega, fun k hk => ⟨g, 0, rfl, lt_of_block hg, ?_⟩⟩ (by decide) (fun _ => by omega) (by omega)).mono ?_
  · have : k = 0 := by simpa using hk
    subst this
    rw [cell_of_row V _ _ _ _ _ hg]; rfl
  · rintro e w' ⟨rfl, b⟩
    exact ⟨rfl, b⟩
/-- A gas is answered. -/
def GasOk (K W H : Int) (n : Nat) (ys : List Int) (w : World) (e : Ending) (w' : World) : Prop := ∃ q, e = .returned (.tuple #[.agg #[.int .i64 K, .int .i64 W, .int .i64 H, .slice (some ⟨q, 0, none⟩) n n], .nilIface]) ∧ ArgP w' ys (some ⟨q, 0, none⟩) n n ∧ Below w.heap.size w w'
def MassOut (x : Int) (w : World) (e : Ending) (w' : World) : Prop := e = .returned (.tuple #[.int .i64 x, .nilIface]) ∧ Below w.heap.size w w'
def PushOut (x y : Int) (w : World) (e : Ending) (w' : World) : Prop := e = .returned (.tuple #[.int .i64 x, .int .i64 y, .nilIface]) ∧ Below w.heap.size w w'
set_option maxRecDepth 100000 in
set_option maxHeartbeats 6400000 in
theorem law_gk_bad (K W H : Int) (xs : List Int) (a : Option Addr) (n c : Nat) (cs : List Int) (b : Option Addr) (m d : Nat) (k : Int) (w : World) (hP : ArgP w xs a n c) (hC : ArgP w cs b m d) (f0 : runGE K W H xs cs k ≠ 0) :
    Calls Try.prog 3 #[.agg #[.int .i64 K, .int .i64 W, .int .i64 H, .slice a n c], .slice b m d, .int .i64 k] w fun e w' => e = .returned (.bool true) ∧ Below w.heap.size w w' := by
  obtain ⟨w1, hw1⟩ : ∃ w1, w.alloc (.cells #[.int .i64 K, .int .i64 W, .int .i64 H, .slice a n c] 24) = w1 := ⟨_, rfl⟩
  have BB := hide' (show Below w.heap.size w w1 by rw [← hw1]; exact (Below.refl _ _).alloc (Nat.le_refl _) _)
  have g1 : w1.heap[w.heap.size]? = some (.cells #[.int .i64 K, .int .i64 W, .int .i64 H, .slice a n c] 24 (0, 0)) := by rw [← hw1]; exact heap_alloc_new _ _
  have SV := hide' (fun (V : World) (h : Below w1.heap.size w1 V) => show V.cell? ⟨w.heap.size, 0, none⟩ = some (.int .i64 K) ∧ V.cell? ⟨w.heap.size, 1, none⟩ = some (.int .i64 W) ∧ V.cell? ⟨w.heap.size, 2, none⟩ = some (.int .i64 H) ∧ V.cell? ⟨w.heap.size, 3, none⟩ = some (.slice a n c) from by
    have e1 := (h.block _ (lt_of_block g1)).trans g1
    exact ⟨cell_of_row V _ 0 _ _ _ e1, cell_of_row V _ 1 _ _ _ e1, cell_of_row V _ 2 _ _ _ e1, cell_of_row V _ 3 _ _ _ e1⟩)
  have BW := hide' (fun (V : World) (h : Below w1.heap.size w1 V) => BB.out.trans (h.mono BB.out.size))
  have C0 := hide' ((Below.refl w1.heap.size w1).alloc (Nat.le_refl _) (.cells #[.int .i64 7] 3))
  have GB := hide' (show (w1.alloc (.cells #[.int .i64 7] 3)).heap[w1.heap.size]? = some (.cells #[.int .i64 7] 3 (0, 0)) from heap_alloc_new _ _)
  have RB := hide' (fun (V : World) (h : Below w1.heap.size w1 V) => gasRun_bad K W H xs a n c cs b m d k V (hP.below (BW.out V h)) (hC.below (BW.out V h)) f0)
  have ER := hide' (errOf_posB f0)
  clear hP hC f0
  clear g1
  go_enter Try.func3, Try.ntmps3
  go_upto_region 1 with fail
  clear hw1
  go_wp2_with fail
  refine (fact7 _ _ GB.out).mono ?_
  rintro e w2 ⟨rfl, b⟩
  have C1 := hide' (C0.out.trans (b.mono C0.out.size))
  clear b C0 GB
  go_upto_region 4 with fail
  obtain ⟨x0, x1, x2, x3⟩ := SV.out _ C1.out
  go_wp2_with fail
  refine (RB.out w2 C1.out).mono ?_
  unfold GasBad
  rw [ER.out]
  rintro e w3 ⟨rfl, b3⟩
  have C2 := hide' ((C1.out.trans (b3.mono C1.out.size)).alloc (by have := C1.out.size; have := b3.size; omega) (.cells #[.int .i64 0, .int .i64 0, .int .i64 0, .slice none 0 0] 24))
  clear b3 x0 x1 x2 x3
  go_wp2
  go_ret
  exact ⟨rfl, BW.out _ C2.out⟩
end Go.Proofs.Ytbkllhlapdmlfaa

namespace Go.Proofs.Ytbkllhlapdmlfaa
open Go.RowKit
set_option linter.unusedVariables false
set_option maxRecDepth 100000 in
set_option maxHeartbeats 6400000 in
theorem law_gk_6 (W H k : Nat) (xs ys : List Int) (M X Y : Int) (a : Option Addr) (n c : Nat) (b : Option Addr) (m d : Nat) (w : World) (hP : ArgP w xs a n c)
    (run : ∀ V, Below w.heap.size w V → Calls Try.prog 7 #[.agg #[.int .i64 6, .int .i64 (W : Int), .int .i64 (H : Int), .slice a n c], .slice b m d, .int .i64 (k : Int)] V (GasOk 6 (W : Int) (H : Int) n ys V))
    (mg : ∀ V, Below w.heap.size w V → Calls Try.prog 6 #[.agg #[.int .i64 6, .int .i64 (W : Int), .int .i64 (H : Int), .slice a n c]] V (MassOut M V))
    (ma : ∀ V q, ArgP V ys (some ⟨q, 0, none⟩) n n → Calls Try.prog 6 #[.agg #[.int .i64 6, .int .i64 (W : Int), .int .i64 (H : Int), .slice (some ⟨q, 0, none⟩) n n]] V (MassOut M V))
    (pg : ∀ V, Below w.heap.size w V → Calls Try.prog 8 #[.agg #[.int .i64 6, .int .i64 (W : Int), .int .i64 (H : Int), .slice a n c]] V (PushOut X Y V))
    (pa : ∀ V q, ArgP V ys (some ⟨q, 0, none⟩) n n → Calls Try.prog 8 #[.agg #[.int .i64 6, .int .i64 (W : Int), .int .i64 (H : Int), .slice (some ⟨q, 0, none⟩) n n]] V (PushOut X Y V)) :
    Calls Try.prog 3 #[.agg #[.int .i64 6, .int .i64 (W : Int), .int .i64 (H : Int), .slice a n c], .slice b m d, .int .i64 (k : Int)] w fun e w' => e = .returned (.bool true) ∧ Below w.heap.size w w' := by
  obtain ⟨w1, hw1⟩ : ∃ w1, w.alloc (.cells #[.int .i64 6, .int .i64 (W : Int), .int .i64 (H : Int), .slice a n c] 24) = w1 := ⟨_, rfl⟩
  have BB := hide' (show Below w.heap.size w w1 by rw [← hw1]; exact (Below.refl _ _).alloc (Nat.le_refl _) _)
  have g1 : w1.heap[w.heap.size]? = some (.cells #[.int .i64 6, .int .i64 (W : Int), .int .i64 (H : Int), .slice a n c] 24 (0, 0)) := by rw [← hw1]; exact heap_alloc_new _ _
  have SV := hide' (fun (V : World) (h : Below w1.heap.size w1 V) => show V.cell? ⟨w.heap.size, 0, none⟩ = some (.int .i64 6) ∧ V.cell? ⟨w.heap.size, 1, none⟩ = some (.int .i64 (W : Int)) ∧ V.cell? ⟨w.heap.size, 2, none⟩ = some (.int .i64 (H : Int)) ∧ V.cell? ⟨w.heap.size, 3, none⟩ = some (.slice a n c) from by
    have e1 := (h.block _ (lt_of_block g1)).trans g1
    exact ⟨cell_of_row V _ 0 _ _ _ e1, cell_of_row V _ 1 _ _ _ e1, cell_of_row V _ 2 _ _ _ e1, cell_of_row V _ 3 _ _ _ e1⟩)
  have BW := hide' (fun (V : World) (h : Below w1.heap.size w1 V) => BB.out.trans (h.mono BB.out.size))
  have C0 := hide' ((Below.refl w1.heap.size w1).alloc (Nat.le_refl _) (.cells #[.int .i64 7] 3))
  have GB := hide' (show (w1.alloc (.cells #[.int .i64 7] 3)).heap[w1.heap.size]? = some (.cells #[.int .i64 7] 3 (0, 0)) from heap_alloc_new _ _)
  have RUN := hide' (fun (V : World) (h : Below w1.heap.size w1 V) => run V (BW.out V h))
  have MG := hide' (fun (V : World) (h : Below w1.heap.size w1 V) => mg V (BW.out V h))
  have MA := hide' ma
  have PG := hide' (fun (V : World) (h : Below w1.heap.size w1 V) => pg V (BW.out V h))
  have PA := hide' pa
  clear run mg ma pg pa hP
  clear g1
  go_enter Try.func3, Try.ntmps3
  go_upto_region 1 with fail
  clear hw1
  go_wp2_with fail
  refine (fact7 _ _ GB.out).mono ?_
  rintro e w2 ⟨rfl, b⟩
  have C1 := hide' (C0.out.trans (b.mono C0.out.size))
  clear b C0 GB
  go_upto_region 4 with fail
  obtain ⟨x0, x1, x2, x3⟩ := SV.out _ C1.out
  go_wp2_with fail
  refine (RUN.out w2 C1.out).mono ?_
  rintro e w3 ⟨qf, rfl, ap, b'⟩
  have C2 := hide' (C1.out.trans (b'.mono C1.out.size))
  clear b' x0 x1 x2 x3 C1
  have Af := hide' ap
  clear ap
  have C3 := hide' (C2.out.alloc C2.out.size (.cells #[.int .i64 6, .int .i64 (W : Int), .int .i64 (H : Int), .slice (some ⟨qf, 0, none⟩) n n] 24))
  have Af0 := hide' (Af.out.alloc (.cells #[.int .i64 6, .int .i64 (W : Int), .int .i64 (H : Int), .slice (some ⟨qf, 0, none⟩) n n] 24))
  have Gf0 := hide' (show (w3.alloc (.cells #[.int .i64 6, .int .i64 (W : Int), .int .i64 (H : Int), .slice (some ⟨qf, 0, none⟩) n n] 24)).heap[w3.heap.size]? = some (.cells #[.int .i64 6, .int .i64 (W : Int), .int .i64 (H : Int), .slice (some ⟨qf, 0, none⟩) n n] 24 (0, 0)) from heap_alloc_new _ _)
  clear Af C2
  obtain ⟨x0, x1, x2, x3⟩ := SV.out _ C3.out
  go_wp2_with fail
  refine (MG.out _ C3.out).mono ?_
  rintro e w4 ⟨rfl, b'⟩
  have C4 := hide' (C3.out.trans (b'.mono C3.out.size))
  have Gf4 := hide' ((b'.block _ (lt_of_block Gf0.out)).trans Gf0.out)
  have Af4 := hide' (Af0.out.below b')
  clear b' x0 x1 x2 x3 C3 Gf0 Af0
  have z0 := cell_of_row _ _ 0 _ _ _ Gf4.out
  have z1 := cell_of_row _ _ 1 _ _ _ Gf4.out
  have z2 := cell_of_row _ _ 2 _ _ _ Gf4.out
  have z3 := cell_of_row _ _ 3 _ _ _ Gf4.out
  simp at z0 z1 z2 z3
  go_wp2_with fail
  refine (MA.out _ qf Af4.out).mono ?_
  rintro e w5 ⟨rfl, b'⟩
  have C5 := hide' (C4.out.trans (b'.mono C4.out.size))
  have Gf5 := hide' ((b'.block _ (lt_of_block Gf4.out)).trans Gf4.out)
  have Af5 := hide' (Af4.out.below b')
  clear b' z0 z1 z2 z3 C4 Gf4 Af4
  obtain ⟨x0, x1, x2, x3⟩ := SV.out _ C5.out
  go_wp2_with fail
  refine (PG.out _ C5.out).mono ?_
  rintro e w6 ⟨rfl, b'⟩
  have C6 := hide' (C5.out.trans (b'.mono C5.out.size))
  have Gf6 := hide' ((b'.block _ (lt_of_block Gf5.out)).trans Gf5.out)
  have Af6 := hide' (Af5.out.below b')
  clear b' x0 x1 x2 x3 C5 Gf5 Af5
  have z0 := cell_of_row _ _ 0 _ _ _ Gf6.out
  have z1 := cell_of_row _ _ 1 _ _ _ Gf6.out
  have z2 := cell_of_row _ _ 2 _ _ _ Gf6.out
  have z3 := cell_of_row _ _ 3 _ _ _ Gf6.out
  simp at z0 z1 z2 z3
  go_wp2_with fail
  refine (PA.out _ qf Af6.out).mono ?_
  rintro e w7 ⟨rfl, b'⟩
  have C7 := hide' (C6.out.trans (b'.mono C6.out.size))
  have Gf7 := hide' ((b'.block _ (lt_of_block Gf6.out)).trans Gf6.out)
  have Af7 := hide' (Af6.out.below b')
  clear b' z0 z1 z2 z3 C6 Gf6 Af6
  obtain ⟨x0, x1, x2, x3⟩ := SV.out _ C7.out
  go_wp2
  go_ret
  exact ⟨rfl, BW.out _ C7.out⟩
end Go.Proofs.Ytbkllhlapdmlfaa

