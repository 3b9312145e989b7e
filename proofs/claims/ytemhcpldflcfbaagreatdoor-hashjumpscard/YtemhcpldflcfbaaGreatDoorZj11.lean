/-
  What the last text of this claim leans on, part 11: Ha9, Hc1.
-/
import Derived.Test.YtemhcpldflcfbaaGreatDoorZj10
import Derived.Test.YtemhcpldflcfbaaGreatDoorZj6
namespace Go.Proofs.YtemhcpldflcfbaaGreatDoor
open Go.RowKit
set_option linter.unusedVariables false
structure KpW (wb : Nat) (V V' : World) : Prop where
 os : V'.os = V.os
 tape : V'.tape = V.tape
 output : V'.output = V.output
 size : V.heap.size ≤ V'.heap.size
 keep : ∀ k, k < V.heap.size → k ≠ wb → V'.heap[k]? = V.heap[k]?
theorem KpW.of_below {wb : Nat} {V V' : World} (h : Below V.heap.size V V') : KpW wb V V' := ⟨h.os, h.tape, h.output, h.size, fun k hk _ => h.block k hk⟩
theorem KpW.trans {wb : Nat} {V V' V'' : World} (h : KpW wb V V') (k : KpW wb V' V'') : KpW wb V V'' := ⟨k.os.trans h.os, k.tape.trans h.tape, k.output.trans h.output, Nat.le_trans h.size k.size, fun i hi h1 => (k.keep i (Nat.lt_of_lt_of_le hi h.size) h1).trans (h.keep i hi h1)⟩
theorem KpW.set {wb i : Nat} {V U : World} (h : KpW wb V U) (v : Value) : KpW wb V (U.setCell ⟨wb, i, none⟩ v) :=
 ⟨h.os, h.tape, h.output, by rw [World.size_setCell]; exact h.size, fun k hk h1 => (Below.heap_setCell _ _ _ _ h1).trans (h.keep k hk h1)⟩
theorem KpW.drew {wb : Nat} {V U : World} (h : KpW wb V U) : KpW wb V U.drew := ⟨h.os, h.tape, h.output, h.size, h.keep⟩
def WinA (V : World) (wb N : Nat) (gf : Nat → Int) : Prop := V.heap[wb]? = some (.cells (arrF N fun i => .int .i64 (gf i)) 3 (0, 0))
theorem WinA.below {V V' : World} {wb N : Nat} {gf : Nat → Int} (h : WinA V wb N gf) (b : Below V.heap.size V V') : WinA V' wb N gf := (b.block _ (lt_of_block h)).trans h
def ShO (W H wb : Nat) (qs : List Sq) (n t : Nat) (x y : Int) (gf : Nat → Int) (w : World) (e : Ending) (w' : World) : Prop :=
 ∃ gf', e = .returned (.tuple #[]) ∧ WinA w' wb (W * H) gf' ∧ ShQ W H qs n t x y gf gf' ∧ KpW wb w w'
def ShC (n : Nat) : Prop := ∀ (L sb B g cap : Nat) (qs : List Sq) (t : Nat) (x y : Int) (W H wb : Nat) (gf : Nat → Int) (w : World), L = n + 3 → StkA w sb B g cap qs → WFQ qs n t → -288230376151711744 ≤ x → x + sideI n ≤ 288230376151711744 → -288230376151711744 ≤ y → y + sideI n ≤ 288230376151711744 → W ≤ 100 → H ≤ 100 → WinA w wb (W * H) gf → (∀ V, KpW wb w V → TzTab V) →
  Calls Tryz.prog 37 #[.pointer (some ⟨sb, 0, none⟩), .int .i32 (t : Int), .int .i64 (L : Int), .int .i64 x, .int .i64 y, .agg #[.int .i64 (W : Int), .int .i64 (H : Int), .slice (some ⟨wb, 0, none⟩) (W * H) (W * H)]] w (ShO W H wb qs n t x y gf w)
set_option maxRecDepth 100000 in
set_option maxHeartbeats 3200000 in
theorem show_none (n L sb B g cap : Nat) (qs : List Sq) (x y : Int) (W H N wb : Nat) (gf : Nat → Int) (w : World) (h : StkA w sb B g cap qs) (hN : W * H = N) (hg : WinA w wb N gf) :
  Calls Tryz.prog 37 #[.pointer (some ⟨sb, 0, none⟩), .int .i32 0, .int .i64 (L : Int), .int .i64 x, .int .i64 y, .agg #[.int .i64 (W : Int), .int .i64 (H : Int), .slice (some ⟨wb, 0, none⟩) N N]] w (ShO W H wb qs n 0 x y gf w) := by
 obtain ⟨w1, hw1⟩ : ∃ w1, w.alloc (.cells #[.int .i64 (W : Int), .int .i64 (H : Int), .slice (some ⟨wb, 0, none⟩) N N] 26) = w1 := ⟨_, rfl⟩
 have B1 := hide' (show Below w.heap.size w w1 by rw [← hw1]; exact (Below.refl _ _).alloc (Nat.le_refl _) _)
 have HW1 := hide' hw1
 have FIN := hide' (show ShO W H wb qs n 0 x y gf w (.returned (.tuple #[])) w1 from ⟨gf, rfl, by rw [hN]; exact hg.below B1.out, ShQ.nil h.st n x y gf, KpW.of_below B1.out⟩)
 clear hw1 h hN hg
 go_enter Tryz.func37, Tryz.ntmps37
 go_upto_region 1 with fail
 rw [HW1.out]
 go_wp2
 refine bodyPost_ret (v := .tuple #[]) (results_none rfl _ _ _) rfl ?_
 exact FIN.out
set_option maxRecDepth 100000 in
set_option maxHeartbeats 3200000 in
theorem show_apart (n L sb B g cap : Nat) (qs : List Sq) (t : Nat) (x y : Int) (W H N wb : Nat) (gf : Nat → Int) (w : World) (hL : L = n + 3) (hn : n ≤ 43) (h : StkA w sb B g cap qs) (hN : W * H = N) (hg : WinA w wb N gf) (t0 : t ≠ 0) (hx : -288230376151711744 ≤ x ∧ x + sideI n ≤ 288230376151711744) (hy : -288230376151711744 ≤ y ∧ y + sideI n ≤ 288230376151711744) (ap : apartB n x y W H = true) :
  Calls Tryz.prog 37 #[.pointer (some ⟨sb, 0, none⟩), .int .i32 (t : Int), .int .i64 (L : Int), .int .i64 x, .int .i64 y, .agg #[.int .i64 (W : Int), .int .i64 (H : Int), .slice (some ⟨wb, 0, none⟩) N N]] w (ShO W H wb qs n t x y gf w) := by
 obtain ⟨w1, hw1⟩ : ∃ w1, w.alloc (.cells #[.int .i64 (W : Int), .int .i64 (H : Int), .slice (some ⟨wb, 0, none⟩) N N] 26) = w1 := ⟨_, rfl⟩
 have B1 := hide' (show Below w.heap.size w w1 by rw [← hw1]; exact (Below.refl _ _).alloc (Nat.le_refl _) _)
 have F1 := hide' (show w1.heap[w.heap.size]? = some (.cells #[.int .i64 (W : Int), .int .i64 (H : Int), .slice (some ⟨wb, 0, none⟩) N N] 26 (0, 0)) by rw [← hw1]; exact heap_alloc_new _ _)
 have HW1 := hide' hw1
 have y0 := cell_of_row w1 _ 0 _ _ _ F1.out
 have y1 := cell_of_row w1 _ 1 _ _ _ F1.out
 have y2 := cell_of_row w1 _ 2 _ _ _ F1.out
 simp at y0 y1 y2
 have m0 : ((t : Int) == 0) = false := by simp; omega
 have AC := hide' (isApart_any n L x y W H (some ⟨wb, 0, none⟩) N N w1 hL (by omega) (by have := sideI_pos n; omega) (by have := sideI_pos n; omega))
 rw [ap] at AC
 have FIN := hide' (fun (V : World) (hV : Below w.heap.size w V) => show ShO W H wb qs n t x y gf w (.returned (.tuple #[])) V from ⟨gf, rfl, by rw [hN]; exact hg.below hV, ShQ.apart (of_decide_eq_true ap) gf, KpW.of_below hV⟩)
 clear hw1 h hN hg t0 hx hy ap hL hn
 go_enter Tryz.func37, Tryz.ntmps37
 go_upto_region 1 with fail
 rw [HW1.out]
 go_wp2_with fail
 refine AC.out.mono ?_
 rintro e w2 ⟨rfl, b⟩
 have B2 := hide' (B1.out.trans (b.mono B1.out.size))
 clear b y0 y1 y2
 go_wp2
 refine bodyPost_ret (v := .tuple #[]) (results_none rfl _ _ _) rfl ?_
 exact FIN.out _ B2.out
theorem WinA.set {V : World} {wb N i : Nat} {gf : Nat → Int} (h : WinA V wb N gf) (z : Int) : WinA (V.setCell ⟨wb, i, none⟩ (.int .i64 z)) wb N (fun j => if j = i then z else gf j) := by
 unfold WinA
 rw [heap_setCell_same _ _ _ _ _ _ h, arrF_set]
 congr 2
 exact arrF_ext fun k _ => by by_cases e : k = i <;> simp [e]
theorem WinA.cell {V : World} {wb N i : Nat} {gf : Nat → Int} (h : WinA V wb N gf) (hi : i < N) : V.cell? ⟨wb, i, none⟩ = some (.int .i64 (gf i)) := (cell_of_row V wb i _ _ _ h).trans (arrF_get _ hi)
theorem and_u64 {a : Nat} (h0 : 0 < a) (ha : a < 2 ^ 64) : bits .and .u64 (a : Int) (IntKind.u64.wrap ((a : Int) - 1)) = ((a &&& (a - 1) : Nat) : Int) := by
 have e : IntKind.u64.wrap ((a : Int) - 1) = ((a - 1 : Nat) : Int) := by simp [IntKind.wrap, IntKind.bits, IntKind.signed]; omega
 rw [e]
 exact u64_and_nat a (a - 1) (by omega) (by omega)
theorem and_u64' {a : Nat} (h0 : 0 < a) (ha : a < 2 ^ 64) : bits .and .u64 (a : Int) ((a : Int) - 1) = ((a &&& (a - 1) : Nat) : Int) := by
 have e : ((a : Int) - 1) = ((a - 1 : Nat) : Int) := by omega
 rw [e]
 exact u64_and_nat a (a - 1) (by omega) (by omega)
set_option maxRecDepth 100000 in
set_option maxHeartbeats 3200000 in
theorem show_eight (sb B g cap : Nat) (qs : List Sq) (t k : Nat) (x y : Int) (W H N wb : Nat) (gf : Nat → Int) (w : World) (h : StkA w sb B g cap qs) (hN : W * H = N) (hg : WinA w wb N gf) (t0 : t ≠ 0) (ht : t < qs.length) (hk : (sqA qs t).k = k) (k64 : k < 2 ^ 64) (hx : -288230376151711744 ≤ x ∧ x ≤ 288230376151711744) (hy : -288230376151711744 ≤ y ∧ y ≤ 288230376151711744) (hW : W ≤ 100) (hH : H ≤ 100) (hT : ∀ V, KpW wb w V → TzTab V) (ap : apartB 0 x y W H = false) :
  Calls Tryz.prog 37 #[.pointer (some ⟨sb, 0, none⟩), .int .i32 (t : Int), .int .i64 3, .int .i64 x, .int .i64 y, .agg #[.int .i64 (W : Int), .int .i64 (H : Int), .slice (some ⟨wb, 0, none⟩) N N]] w (ShO W H wb qs 0 t x y gf w) := by
 obtain ⟨w1, hw1⟩ : ∃ w1, w.alloc (.cells #[.int .i64 (W : Int), .int .i64 (H : Int), .slice (some ⟨wb, 0, none⟩) N N] 26) = w1 := ⟨_, rfl⟩
 have B1 := hide' (show Below w.heap.size w w1 by rw [← hw1]; exact (Below.refl _ _).alloc (Nat.le_refl _) _)
 have F1 := hide' (show w1.heap[w.heap.size]? = some (.cells #[.int .i64 (W : Int), .int .i64 (H : Int), .slice (some ⟨wb, 0, none⟩) N N] 26 (0, 0)) by rw [← hw1]; exact heap_alloc_new _ _)
 have HW1 := hide' hw1
 have y0 := cell_of_row w1 _ 0 _ _ _ F1.out
 have y1 := cell_of_row w1 _ 1 _ _ _ F1.out
 have y2 := cell_of_row w1 _ 2 _ _ _ F1.out
 simp at y0 y1 y2
 have m0 : ((t : Int) == 0) = false := by simp; omega
 have AC := hide' (isApart_any 0 3 x y W H (some ⟨wb, 0, none⟩) N N w1 rfl (by omega) (by omega) (by omega))
 rw [ap] at AC
 have HK := hide' h
 have HT := hide' ht
 have HKK := hide' hk
 have K64 := hide' k64
 have HXY := hide' (And.intro hx hy)
 have HWH := hide' (And.intro hW hH)
 have HTZ := hide' hT
 have HGW := hide' hg
 have HNN := hide' hN
 have GL := hide' (lt_of_block hg)
 obtain ⟨qn, hqn⟩ : ∃ n, qs.length = n := ⟨_, rfl⟩
 have HQN := hide' hqn
 clear hw1 h t0 ht hk k64 hx hy ap hW hH hT hg hqn hN
 go_enter Tryz.func37, Tryz.ntmps37
 go_upto_region 1 with fail
 rw [HW1.out]
 go_wp2_with fail
 refine AC.out.mono ?_
 rintro e w2 ⟨rfl, b⟩
 have B2 := hide' (B1.out.trans (b.mono B1.out.size))
 have F2 := hide' ((b.block _ (lt_of_block F1.out)).trans F1.out)
 have K2 := hide' (HK.out.below B2.out)
 have c0 := cell_of_row w2 sb 0 _ _ _ K2.out.blk
 have c4 := (K2.out.cells HT.out).2.2.2.2.1
 have lt := HT.out
 simp at c0
 rw [HQN.out] at c0 lt
 rw [HKK.out] at c4
 have l1 : (t : Int) < (qn : Int) := by omega
 clear b y0 y1 y2 lt
 go_upto_region 10 with fail
 clear c0 c4 l1
 go_loopw [15] (fun kv wr => ∃ (kj : Nat) (gj : Nat → Int), kv = .int .u64 (kj : Int) ∧ Hid (kj < 2 ^ 64 ∧ ∀ i, kj.testBit i = true → k.testBit i = true) ∧ Hid (WinA wr wb N gj) ∧ Hid (ShP W H (ebQ k kj x y) gf gj) ∧ Hid (KpW wb w2 wr)) (fun kv _ => (intOf kv).toNat)
 case atStart => exact ⟨k, gf, rfl, hide' ⟨K64.out, fun _ h => h⟩, hide' (HGW.out.below B2.out), hide' (ShP.refl fun u v _ _ ⟨i, _, h1, h2, _⟩ => by rw [h1] at h2; cases h2), hide' (KpW.of_below (Below.refl _ _))⟩
 case round =>
  obtain ⟨kj, gj, rfl, HKJ, HWJ, HSH, HKP⟩ := hrel
  by_cases dj : kj = 0
  ·subst dj
   have FIN := hide' (show ShO W H wb qs 0 t x y gf w (.returned (.tuple #[])) wr from ⟨gj, rfl, by rw [HNN.out]; exact HWJ.out, ebQ_done (by rw [HKK.out]; exact HSH.out), (KpW.of_below B2.out).trans HKP.out⟩)
   go_wp2
   go_end0
   exact FIN.out
  ·have d1 : ((kj : Int) == 0) = false := by simp; omega
   have kp : 0 < kj := by omega
   have DJ := hide' kp
   clear dj kp
   go_wp2_with fail
   refine (tz64_any kj wr DJ.out HKJ.out.1 (HTZ.out wr ((KpW.of_below B2.out).trans HKP.out))).mono ?_
   rintro e w3 ⟨rfl, rfl⟩
   obtain ⟨b, hb⟩ : ∃ b, Lib.ctz 64 kj = b := ⟨_, rfl⟩
   have b6 := (Lib.lowest_bit 64 kj (by have := DJ.out; omega) HKJ.out.1).2
   have lw := ctz_lowH DJ.out HKJ.out.1
   rw [hb] at b6 lw ⊢
   have LW := hide' lw
   clear hb lw
   have GR := hide' (show w3.heap[w.heap.size]? = some (.cells #[.int .i64 (W : Int), .int .i64 (H : Int), .slice (some ⟨wb, 0, none⟩) N N] 26 (0, 0)) from (HKP.out.keep _ (lt_of_block F2.out) (by have := GL.out; omega)).trans F2.out)
   have y0 := cell_of_row w3 _ 0 _ _ _ GR.out
   have y1 := cell_of_row w3 _ 1 _ _ _ GR.out
   have y2 := cell_of_row w3 _ 2 _ _ _ GR.out
   simp at y0 y1 y2
   obtain ⟨u, hu⟩ : ∃ u, x + (b : Int) % 8 = u := ⟨_, rfl⟩
   obtain ⟨v, hv⟩ : ∃ v, y + (b : Int) / 8 = v := ⟨_, rfl⟩
   have E1 := hide' (show wrap64 (x + (b : Int) % 8) = u by have := HXY.out; rw [hu]; unfold wrap64; omega)
   have E2 := hide' (show wrap64 (y + (b : Int) / 8) = v by have := HXY.out; rw [hv]; unfold wrap64; omega)
   have HU := hide' (And.intro hu hv)
   clear hu hv
   go_wp2_with fail
   rw [E1.out, E2.out]
   refine (within_any u v W H (some ⟨wb, 0, none⟩) N N w3 HWH.out.1 HWH.out.2).mono ?_
   rintro e w4 ⟨⟨vi, rfl, hvi⟩, b⟩
   have BX := hide' b
   have W4 := hide' (HWJ.out.below b)
   have K4 := hide' (HKP.out.trans (KpW.of_below b))
   clear y0 y1 y2 b
   have an := and_u64 DJ.out HKJ.out.1
   have an' := and_u64' DJ.out HKJ.out.1
   have sub2 : (kj &&& (kj - 1)) < 2 ^ 64 ∧ ∀ i, (kj &&& (kj - 1)).testBit i = true → k.testBit i = true := ⟨Nat.lt_of_le_of_lt Nat.and_le_left HKJ.out.1, fun i h => HKJ.out.2 i (by rw [Nat.testBit_and] at h; simp at h; exact h.1)⟩
   have dec : kj &&& (kj - 1) < kj := by have h1 : kj &&& (kj - 1) ≤ kj - 1 := Nat.and_le_right; have := DJ.out; omega
   have SB2 := hide' sub2
   have DC := hide' dec
   clear sub2 dec
   cases hin : inB u v W H with
   | false =>
    have NI := of_decide_eq_false hin
    have S2 := hide' (ebQ_step (g2 := gj) b6 HKJ.out.2 LW.out.1 LW.out.2 HSH.out (ShP.refl fun u' v' h1 h2 e => by
     have e1 := HU.out.1
     have e2 := HU.out.2
     exact NI (by omega)))
    clear hvi hin NI
    go_wp2
    exact ⟨⟨_, gj, rfl, SB2, W4, S2, K4⟩, by have := DC.out; simp [intOf]; omega⟩
   | true =>
    have hvi' := hvi hin
    have hq := of_decide_eq_true hin
    obtain ⟨U, hU⟩ := Int.eq_ofNat_of_zero_le hq.1
    obtain ⟨V, hV⟩ := Int.eq_ofNat_of_zero_le hq.2.2.1
    obtain ⟨i, hi⟩ : ∃ i, V * W + U = i := ⟨_, rfl⟩
    have iv2 : vi = (i : Int) := by rw [hvi', hU, hV, ← hi]; push_cast; rfl
    have U1 : U < W := by have := hq.2.1; omega
    have il : i < N := by
     have h2 : V < H := by have := hq.2.2.2; omega
     have h3 : (V + 1) * W ≤ H * W := Nat.mul_le_mul_right _ (by omega)
     rw [← HNN.out, ← hi, Nat.mul_comm W H]
     rw [Nat.succ_mul] at h3
     omega
    have S2 := hide' (ebQ_step (g2 := fun j => if j = i then 1 else gj j) b6 HKJ.out.2 LW.out.1 LW.out.2 HSH.out (by
     have o := ShP.one (W := W) (H := H) gj (a := U) (b := V) U1
     rw [hi] at o
     exact o.congr fun u' v' h1 h2 => by have e1 := HU.out.1; have e2 := HU.out.2; omega))
    have G4 := hide' (show w4.heap[w.heap.size]? = some (.cells #[.int .i64 (W : Int), .int .i64 (H : Int), .slice (some ⟨wb, 0, none⟩) N N] 26 (0, 0)) from (BX.out.block _ (lt_of_block GR.out)).trans GR.out)
    have y2 := cell_of_row w4 _ 2 _ _ _ G4.out
    simp at y2
    have f4 := frozen_of_row w4 wb i _ _ W4.out
    have r4 := W4.out.cell il
    have N1 := hide' (W4.out.set (i := i) 1)
    have N2 := hide' (K4.out.set (i := i) (.int .i64 1))
    have il2 : (i : Int) < (N : Int) := by omega
    subst iv2
    clear hvi hvi' hq hU hV hi U1 il hin
    go_wp2
    exact ⟨⟨_, _, rfl, SB2, N1, S2, N2⟩, by have := DC.out; simp [intOf]; omega⟩
theorem p4_prt (qs : List Sq) (t j : Nat) : p4 (sqA qs t).a (sqA qs t).b (sqA qs t).c (sqA qs t).d j = prt (sqA qs t) j := rfl
set_option maxRecDepth 100000 in
set_option maxHeartbeats 6400000 in
theorem show_four (n : Nat) (ih : ShC n) (L sb B g cap : Nat) (qs : List Sq) (t : Nat) (x y : Int) (W H N wb : Nat) (gf : Nat → Int) (w : World) (hL : L = n + 4) (hn : n ≤ 42) (h : StkA w sb B g cap qs) (hN : W * H = N) (hg : WinA w wb N gf) (t0 : t ≠ 0) (hw : WFQ qs (n + 1) t) (hx : -288230376151711744 ≤ x ∧ x + sideI (n + 1) ≤ 288230376151711744) (hy : -288230376151711744 ≤ y ∧ y + sideI (n + 1) ≤ 288230376151711744) (hW : W ≤ 100) (hH : H ≤ 100) (hT : ∀ V, KpW wb w V → TzTab V) (ap : apartB (n + 1) x y W H = false) :
  Calls Tryz.prog 37 #[.pointer (some ⟨sb, 0, none⟩), .int .i32 (t : Int), .int .i64 (L : Int), .int .i64 x, .int .i64 y, .agg #[.int .i64 (W : Int), .int .i64 (H : Int), .slice (some ⟨wb, 0, none⟩) N N]] w (ShO W H wb qs (n + 1) t x y gf w) := by
 have HK := hide' h
 obtain ⟨w1, hw1⟩ : ∃ w1, w.alloc (.cells #[.int .i64 (W : Int), .int .i64 (H : Int), .slice (some ⟨wb, 0, none⟩) N N] 26) = w1 := ⟨_, rfl⟩
 have B1 := hide' (show Below w.heap.size w w1 by rw [← hw1]; exact (Below.refl _ _).alloc (Nat.le_refl _) _)
 have F1 := hide' (show w1.heap[w.heap.size]? = some (.cells #[.int .i64 (W : Int), .int .i64 (H : Int), .slice (some ⟨wb, 0, none⟩) N N] 26 (0, 0)) by rw [← hw1]; exact heap_alloc_new _ _)
 have HW1 := hide' hw1
 have y0 := cell_of_row w1 _ 0 _ _ _ F1.out
 have y1 := cell_of_row w1 _ 1 _ _ _ F1.out
 have y2 := cell_of_row w1 _ 2 _ _ _ F1.out
 simp at y0 y1 y2
 have m0 : ((t : Int) == 0) = false := by simp; omega
 have sn := sideI_next n
 have sp := sideI_pos n
 have AC := hide' (isApart_any (n + 1) L x y W H (some ⟨wb, 0, none⟩) N N w1 (by omega) (by omega) (by omega) (by omega))
 rw [ap] at AC
 have ht := hw.lt h.st
 obtain ⟨L', hL'⟩ : ∃ L', n + 3 = L' := ⟨_, rfl⟩
 have f1 : (L : Int) - 1 = (L' : Int) := by omega
 have f2 : 3 < (L : Int) := by omega
 have f3 : L' ≤ 47 := by omega
 obtain ⟨sd, hsd⟩ : ∃ sd, sideI n = sd := ⟨_, rfl⟩
 have sl := sideI_le (n := n) (by omega)
 have e1 : wrap64 (2 ^ L') = sd := by
  have : (2 : Int) ^ L' = sd := by rw [← hL', ← hsd, sideI_nat]; push_cast; rfl
  rw [this]; unfold wrap64; omega
 have SD := hide' (And.intro hsd hL')
 have BD := hide' (And.intro hx hy)
 rw [sn, hsd] at BD
 have PS := hide' (And.intro hw ht)
 have HWH := hide' (And.intro hW hH)
 have HTZ := hide' hT
 have HGW := hide' hg
 have HNN := hide' hN
 have GL := hide' (lt_of_block hg)
 obtain ⟨qn, hqn⟩ : ∃ n, qs.length = n := ⟨_, rfl⟩
 have HQN := hide' hqn
 obtain ⟨p0, hp0⟩ : ∃ p, (sqA qs t).a = p := ⟨_, rfl⟩
 obtain ⟨p1, hp1⟩ : ∃ p, (sqA qs t).b = p := ⟨_, rfl⟩
 obtain ⟨p2, hp2⟩ : ∃ p, (sqA qs t).c = p := ⟨_, rfl⟩
 obtain ⟨p3, hp3⟩ : ∃ p, (sqA qs t).d = p := ⟨_, rfl⟩
 have HPP := hide' (And.intro hp0 (And.intro hp1 (And.intro hp2 hp3)))
 clear hw1 h hw hx hy ap hL hn hW hH ht sn sp hsd sl hL' hp0 hp1 hp2 hp3 hqn hT hg hN t0
 go_enter Tryz.func37, Tryz.ntmps37
 go_upto_region 1 with fail
 rw [HW1.out]
 go_wp2_with fail
 refine AC.out.mono ?_
 rintro e w2 ⟨rfl, b⟩
 have B2 := hide' (B1.out.trans (b.mono B1.out.size))
 have F2 := hide' ((b.block _ (lt_of_block F1.out)).trans F1.out)
 have K2 := hide' (HK.out.below B2.out)
 have c0 := cell_of_row w2 sb 0 _ _ _ K2.out.blk
 obtain ⟨q0, q1, q2, q3, -, -⟩ := K2.out.cells PS.out.2
 have lt := PS.out.2
 simp at c0
 rw [HQN.out] at c0 lt
 rw [HPP.out.1] at q0
 rw [HPP.out.2.1] at q1
 rw [HPP.out.2.2.1] at q2
 rw [HPP.out.2.2.2] at q3
 have l1 : (t : Int) < (qn : Int) := by omega
 clear b y0 y1 y2 lt
 go_upto_region 4 with fail
 rw [e1]
 clear e1
 have IX := hide' (fun (i : Nat) (hi : i < 4) (V : World) => index_p4 (a := p0) (b := p1) (c := p2) (d := p3) hi V)
 go_wp2
 clear c0 q0 q1 q2 q3
 go_loopw [41] (fun iv wr => ∃ (i : Nat) (gj : Nat → Int), iv = .int .i64 (i : Int) ∧ i ≤ 4 ∧ Hid (WinA wr wb N gj) ∧ Hid (ShP W H (pvQ qs n t x y i) gf gj) ∧ Hid (KpW wb w2 wr)) (fun iv _ => 4 - (intOf iv).toNat)
 case atStart => exact ⟨0, gf, rfl, by omega, hide' (HGW.out.below B2.out), hide' (pvQ_zero gf), hide' (KpW.of_below (Below.refl _ _))⟩
 case round =>
  obtain ⟨i, gj, rfl, hi, HWJ, HSH, HKP⟩ := hrel
  by_cases di : i < 4
  ·have d1 : (i : Int) < 4 := by omega
   have ix := IX.out i di
   obtain ⟨pt, hpt⟩ : ∃ t, p4 p0 p1 p2 p3 i = t := ⟨_, rfl⟩
   rw [hpt] at ix
   have HPT := hide' (show prt (sqA qs t) i = pt by rw [← p4_prt, HPP.out.1, HPP.out.2.1, HPP.out.2.2.1, HPP.out.2.2.2]; exact hpt)
   clear hpt
   have GR := hide' (show wr.heap[w.heap.size]? = some (.cells #[.int .i64 (W : Int), .int .i64 (H : Int), .slice (some ⟨wb, 0, none⟩) N N] 26 (0, 0)) from (HKP.out.keep _ (lt_of_block F2.out) (by have := GL.out; omega)).trans F2.out)
   have y0 := cell_of_row wr _ 0 _ _ _ GR.out
   have y1 := cell_of_row wr _ 1 _ _ _ GR.out
   have y2 := cell_of_row wr _ 2 _ _ _ GR.out
   simp at y0 y1 y2
   obtain ⟨X, hX⟩ : ∃ X, x + (i : Int) % 2 * sd = X := ⟨_, rfl⟩
   obtain ⟨Y, hY⟩ : ∃ Y, y + (i : Int) / 2 * sd = Y := ⟨_, rfl⟩
   have sb1 : 8 ≤ sd ∧ sd ≤ 281474976710656 := by rw [← SD.out.1]; exact ⟨sideI_pos n, sideI_le (by have := SD.out.2; omega)⟩
   have bd := BD.out
   have XY := hide' (show (wrap64 (x + wrap64 ((i : Int) % 2 * sd)) = X ∧ wrap64 (y + wrap64 ((i : Int) / 2 * sd)) = Y) ∧ (-288230376151711744 ≤ X ∧ X + sd ≤ 288230376151711744) ∧ (-288230376151711744 ≤ Y ∧ Y + sd ≤ 288230376151711744) by
    rw [← hX, ← hY]
    have : i = 0 ∨ i = 1 ∨ i = 2 ∨ i = 3 := by omega
    rcases this with rfl | rfl | rfl | rfl <;> simp [wrap64] <;> omega)
   have HXY := hide' (And.intro hX hY)
   clear hX hY sb1 bd
   go_wp2_with fail
   rw [XY.out.1.1, XY.out.1.2]
   have ws := (PS.out.1).parts HK.out.st
   have wpt : WFQ qs n pt := by
    rw [← HPT.out]; unfold prt
    split; exact ws.1; split; exact ws.2.1; split; exact ws.2.2.1; exact ws.2.2.2
   have KW := hide' ((KpW.of_below (wb := wb) B2.out).trans HKP.out)
   have KR := hide' (show StkA wr sb B g cap qs from K2.out.keep (HKP.out.keep _ K2.out.lt.1 (fun e => by
     have := (HK.out.ne_four HGW.out (by decide) (by decide)).1; omega)) (HKP.out.keep _ K2.out.lt.2 (fun e => by
     have := (HK.out.ne_four HGW.out (by decide) (by decide)).2; omega)))
   refine Calls.mono (show Calls _ _ #[.pointer (some ⟨sb, 0, none⟩), .int .i32 (pt : Int), .int .i64 (L' : Int), .int .i64 X, .int .i64 Y, .agg #[.int .i64 (W : Int), .int .i64 (H : Int), .slice (some ⟨wb, 0, none⟩) N N]] wr (ShO W H wb qs n pt X Y gj wr) from by
    have := ih L' sb B g cap qs pt X Y W H wb gj wr SD.out.2.symm KR.out wpt XY.out.2.1.1 (by rw [SD.out.1]; exact XY.out.2.1.2) XY.out.2.2.1 (by rw [SD.out.1]; exact XY.out.2.2.2) HWH.out.1 HWH.out.2 (by rw [HNN.out]; exact HWJ.out) (fun V hV => HTZ.out V (KW.out.trans hV))
    rw [HNN.out] at this
    exact this) ?_
   rintro e w4 ⟨g2, rfl, hw4, hsq, hk4⟩
   rw [HNN.out] at hw4
   have N1 := hide' hw4
   have N2 := hide' (show ShP W H (pvQ qs n t x y (i + 1)) gf g2 from pvQ_step HSH.out (by rw [HPT.out, SD.out.1, HXY.out.1, HXY.out.2]; exact hsq))
   have N3 := hide' (HKP.out.trans hk4)
   clear ws wpt hw4 hsq hk4 y0 y1 y2
   go_wp2
   exact ⟨⟨i + 1, g2, by go_num, by omega, N1, N2, N3⟩, by simp [intOf]; omega⟩
  ·have d1 : ¬ (i : Int) < 4 := by omega
   obtain rfl : i = 4 := by omega
   have FIN := hide' (show ShO W H wb qs (n + 1) t x y gf w (.returned (.tuple #[])) wr from ⟨gj, rfl, by rw [HNN.out]; exact HWJ.out, pvQ_four HSH.out, (KpW.of_below B2.out).trans HKP.out⟩)
   go_wp2
   refine bodyPost_ret (v := .tuple #[]) (results_none rfl _ _ _) rfl ?_
   exact FIN.out
theorem show_any : ∀ n, n ≤ 43 → ShC n
 | 0, _ => by
  intro L sb B g cap qs t x y W H wb gf w hL h hw x1 x2 y1 y2 hW hH hg hT
  subst hL
  by_cases t0 : t = 0
  ·subst t0
   exact show_none 0 3 sb B g cap qs x y W H _ wb gf w h rfl hg
  ·by_cases ap : apartB 0 x y W H = true
   ·exact show_apart 0 3 sb B g cap qs t x y W H _ wb gf w rfl (by omega) h rfl hg t0 ⟨x1, x2⟩ ⟨y1, y2⟩ ap
   ·have hk : (sqA qs t).k < 2 ^ 64 := by
     rcases hw with rfl | hw
     ·rw [h.st.2.2.2.2.2]; omega
     ·exact hw.2.2
    have s8 : sideI 0 = 8 := by decide
    rw [s8] at x2 y2
    exact show_eight sb B g cap qs t _ x y W H _ wb gf w h rfl hg t0 (hw.lt h.st) rfl hk (by omega) (by omega) hW hH hT (by simpa using ap)
 | n + 1, hn => by
  intro L sb B g cap qs t x y W H wb gf w hL h hw x1 x2 y1 y2 hW hH hg hT
  by_cases t0 : t = 0
  ·subst t0
   exact show_none (n + 1) L sb B g cap qs x y W H _ wb gf w h rfl hg
  ·by_cases ap : apartB (n + 1) x y W H = true
   ·exact show_apart (n + 1) L sb B g cap qs t x y W H _ wb gf w hL hn h rfl hg t0 ⟨x1, x2⟩ ⟨y1, y2⟩ ap
   ·exact show_four n (show_any n (by omega)) L sb B g cap qs t x y W H _ wb gf w (by omega) (by omega) h rfl hg t0 hw ⟨x1, x2⟩ ⟨y1, y2⟩ hW hH hT (by simpa using ap)
end Go.Proofs.YtemhcpldflcfbaaGreatDoor
