/-
  What the last text of this claim leans on, part 10: Ha7.
-/
import Derived.Test.YtelocgefaommmaaDoorZh9
import Derived.Laws.BitsAllLaws
namespace Go.Proofs.YtelocgefaommmaaDoor
open Go.RowKit
set_option linter.unusedVariables false
theorem ArgP.cellAt {w : World} {xs : List Int} {a : Option Addr} {n c : Nat} (h : ArgP w xs a n c) {i : Nat} (hi : i < xs.length) : ∃ g off, a = some ⟨g, off, none⟩ ∧ w.cell? ⟨g, off + i, none⟩ = some (.int .i64 (xs.getD i 0)) := by
  obtain ⟨g, off, e, -, hc⟩ := h.cells i hi
  exact ⟨g, off, e, by rw [hc]; simp [List.getD, hi]⟩
theorem set_bits {k j c : Nat} (hk : k < 2 ^ 64) (hj : j < 64) (hc : c ≤ 1) : bits BinOp.or IntKind.u64 (bits BinOp.andNot IntKind.u64 (k : Int) (IntKind.u64.wrap (2 ^ j))) (IntKind.u64.wrap ((c : Int) * 2 ^ j)) = ((setB k j c : Nat) : Int) := by
  have p : 2 ^ j < 2 ^ 64 := Nat.pow_lt_pow_right (by omega) hj
  have q : c * 2 ^ j ≤ 1 * 2 ^ j := Nat.mul_le_mul_right _ hc
  have e1 : IntKind.u64.wrap (2 ^ j) = ((2 ^ j : Nat) : Int) := by
    have : (2 : Int) ^ j = ((2 ^ j : Nat) : Int) := by push_cast; rfl
    rw [this]
    generalize 2 ^ j = z at p
    simp [IntKind.wrap, IntKind.bits, IntKind.signed]; omega
  have e2 : IntKind.u64.wrap ((c : Int) * 2 ^ j) = ((c * 2 ^ j : Nat) : Int) := by
    have : (c : Int) * (2 : Int) ^ j = ((c * 2 ^ j : Nat) : Int) := by push_cast; rfl
    rw [this]
    generalize c * 2 ^ j = z at q
    simp [IntKind.wrap, IntKind.bits, IntKind.signed]; omega
  rw [e1, e2, u64_andNot_nat k (2 ^ j) (by omega) (by omega), u64_or_nat _ _ (Nat.lt_of_le_of_lt Nat.and_le_left (by omega)) (by omega)]
  rfl
def cntQ : Nat → Nat
  | 0 => 1
  | n + 1 => 4 * cntQ n + 1
/-- What lay answers. -/
def LyP (sb B g : Nat) (W H : Nat) (xs : List Int) (qs : List Sq) (n t : Nat) (x y : Int) (w : World) (e : Ending) (w' : World) : Prop :=
  ∃ g' cap' qs' t', e = .returned (.int .i32 ((t' : Nat) : Int)) ∧ StkA w' sb B g' cap' qs' ∧ (∃ ms, qs' = qs ++ ms ∧ ms.length ≤ cntQ n) ∧ LayQ W H (cellF W xs) qs n t x y qs' t' ∧ KpS sb g g' w w'
set_option maxRecDepth 100000 in
set_option maxHeartbeats 3200000 in
theorem lay_eight (sb B g cap : Nat) (qs : List Sq) (t k : Nat) (x y : Int) (W H : Nat) (xs : List Int) (a : Option Addr) (m c : Nat) (w : World) (h : StkA w sb B g cap qs) (hB : B ≤ w.heap.size) (hn : qs.length ≤ 2000000) (ht : t < qs.length) (hk : (sqA qs t).k = k) (k64 : k < 2 ^ 64) (hx : -100000000 ≤ x ∧ x ≤ 100000000) (hy : -100000000 ≤ y ∧ y ≤ 100000000) (hW : W ≤ 100) (hH : H ≤ 100)
    (hP : ArgP w xs a m c) (hm : xs.length = W * H) (hb : ∀ i, 0 ≤ xs.getD i 0 ∧ xs.getD i 0 ≤ 1) (ap : apartB 0 x y W H = false) :
    Calls Tryd.prog 26 #[.pointer (some ⟨sb, 0, none⟩), .int .i32 (t : Int), .int .i64 3, .int .i64 x, .int .i64 y, .agg #[.int .i64 (W : Int), .int .i64 (H : Int), .slice a m c]] w (LyP sb B g W H xs qs 0 t x y w) := by
  have HK := hide' h
  obtain ⟨w1, hw1⟩ : ∃ w1, w.alloc (.cells #[.int .i64 (W : Int), .int .i64 (H : Int), .slice a m c] 26) = w1 := ⟨_, rfl⟩
  have B1 := hide' (show Below w.heap.size w w1 by rw [← hw1]; exact (Below.refl _ _).alloc (Nat.le_refl _) _)
  have F1 := hide' (show w1.heap[w.heap.size]? = some (.cells #[.int .i64 (W : Int), .int .i64 (H : Int), .slice a m c] 26 (0, 0)) by rw [← hw1]; exact heap_alloc_new _ _)
  have HW1 := hide' hw1
  have SV := hide' (fun (V : World) (hV : Below w1.heap.size w1 V) => show StkA V sb B g cap qs ∧ V.heap[w.heap.size]? = some (.cells #[.int .i64 (W : Int), .int .i64 (H : Int), .slice a m c] 26 (0, 0)) ∧ ArgP V xs a m c from
    have b := B1.out.trans (hV.mono B1.out.size)
    ⟨h.below b, (hV.block _ (lt_of_block F1.out)).trans F1.out, hP.below b⟩)
  have AP := hide' ap
  have HX := hide' hx
  have HY := hide' hy
  have HWH := hide' (And.intro hW hH)
  have HT := hide' ht
  have HM := hide' hm
  have HBT := hide' hb
  have HKK := hide' hk
  have K64 := hide' k64
  have HN := hide' hn
  have HBB := hide' hB
  obtain ⟨n, hnn⟩ : ∃ n, qs.length = n := ⟨_, rfl⟩
  have HNN := hide' hnn
  have y0 := cell_of_row w1 _ 0 _ _ _ F1.out
  have y1 := cell_of_row w1 _ 1 _ _ _ F1.out
  have y2 := cell_of_row w1 _ 2 _ _ _ F1.out
  simp at y0 y1 y2
  clear hw1 h hP ap hx hy ht hm hk hnn hb k64 hn hB
  go_enter Tryd.func26, Tryd.ntmps26
  go_upto_region 1 with fail
  rw [HW1.out]
  go_wp2_with fail
  refine (isApart_any 0 3 x y W H a m c w1 rfl (by omega) (by have := HX.out; omega) (by have := HY.out; omega)).mono ?_
  rw [AP.out]
  rintro e w2 ⟨rfl, b⟩
  have B2 := hide' b
  obtain ⟨K2, G2, P2⟩ := SV.out w2 b
  have c0 := cell_of_row w2 sb 0 _ _ _ K2.blk
  have lt := HT.out
  have c4 := (K2.cells lt).2.2.2.2.1
  simp at c0
  rw [HNN.out] at c0 lt
  rw [HKK.out] at c4
  have l1 : (t : Int) < (n : Int) := by omega
  clear b K2 G2 P2 lt y0 y1 y2
  go_upto_region 14 with fail
  go_loopw [17, 77] (fun kv iv wr => ∃ (j kj : Nat), iv = .int .i64 (j : Int) ∧ kv = .int .u64 (kj : Int) ∧ j ≤ 64 ∧ Hid (LKn W H xs x y k j kj) ∧ Hid (Below w1.heap.size w1 wr)) (fun _ iv _ => 64 - (intOf iv).toNat)
  case atStart => exact ⟨0, k, rfl, rfl, by omega, hide' (LKn.zero K64.out), B2⟩
  case round =>
    obtain ⟨j, kj, rfl, rfl, hj, HKJ, BW⟩ := hrel
    by_cases dj : j < 64
    · have d1 : (j : Int) < 64 := by omega
      obtain ⟨K2, G2, P2⟩ := SV.out wr BW.out
      have y0 := cell_of_row wr _ 0 _ _ _ G2
      have y1 := cell_of_row wr _ 1 _ _ _ G2
      have y2 := cell_of_row wr _ 2 _ _ _ G2
      simp at y0 y1 y2
      clear K2 P2 c0 c4 l1
      obtain ⟨u, hu⟩ : ∃ u, x + (j : Int) % 8 = u := ⟨_, rfl⟩
      obtain ⟨v, hv⟩ : ∃ v, y + (j : Int) / 8 = v := ⟨_, rfl⟩
      have E1 := hide' (show wrap64 (x + (j : Int) % 8) = u by have := HX.out; rw [hu]; unfold wrap64; omega)
      have E2 := hide' (show wrap64 (y + (j : Int) / 8) = v by have := HY.out; rw [hv]; unfold wrap64; omega)
      have HU := hide' (And.intro hu hv)
      clear hu hv
      go_wp2_with fail
      rw [E1.out, E2.out]
      refine (within_any u v W H a m c wr HWH.out.1 HWH.out.2).mono ?_
      rintro e w3 ⟨⟨vi, rfl, hvi⟩, b⟩
      have BX := hide' (BW.out.trans (b.mono BW.out.size))
      clear y0 y1 y2 G2 b
      cases hin : inB u v W H with
      | false =>
        have NI := hide' (show ¬ inP W H (x + (j : Int) % 8) (y + (j : Int) / 8) by rw [HU.out.1, HU.out.2]; exact of_decide_eq_false hin)
        have LK2 := hide' (HKJ.out.skip NI.out)
        clear hvi hin
        go_wp2
        exact ⟨⟨j + 1, kj, by go_num, rfl, by omega, LK2, BX⟩, by simp [intOf]; omega⟩
      | true =>
        obtain ⟨K2, G2, P2⟩ := SV.out w3 BX.out
        have y2 := cell_of_row w3 _ 2 _ _ _ G2
        simp at y2
        have hvi' := hvi hin
        have hq := of_decide_eq_true hin
        have YI := hide' (show inP W H (x + (j : Int) % 8) (y + (j : Int) / 8) by rw [HU.out.1, HU.out.2]; exact hq)
        obtain ⟨U, hU⟩ := Int.eq_ofNat_of_zero_le hq.1
        obtain ⟨V, hV⟩ := Int.eq_ofNat_of_zero_le hq.2.2.1
        obtain ⟨i, hi⟩ : ∃ i, V * W + U = i := ⟨_, rfl⟩
        have iv : v * W + u = (i : Int) := by rw [hU, hV, ← hi]; push_cast; rfl
        have iv2 : vi = (i : Int) := by rw [hvi', iv]
        have il : i < xs.length := by
          have h1 : U < W := by have := hq.2.1; omega
          have h2 : V < H := by have := hq.2.2.2; omega
          have h3 : (V + 1) * W ≤ H * W := Nat.mul_le_mul_right _ (by omega)
          rw [HM.out, ← hi, Nat.mul_comm W H]
          rw [Nat.succ_mul] at h3
          omega
        obtain ⟨cb, hcb⟩ : ∃ cb, xs.getD i 0 = cb := ⟨_, rfl⟩
        have b0 := HBT.out i
        rw [hcb] at b0
        obtain ⟨cn, hcn⟩ := Int.eq_ofNat_of_zero_le b0.1
        have cn1 : cn ≤ 1 := by omega
        have CE := hide' (show cellF W xs (x + (j : Int) % 8) (y + (j : Int) / 8) = (cn : Int) by
          rw [HU.out.1, HU.out.2]
          unfold cellF
          rw [iv]
          exact hcb.trans hcn)
        obtain ⟨pg, po, rfl, pc⟩ := P2.cellAt il
        rw [hcb, hcn] at pc
        have il2 : (i : Int) < (m : Int) := by rw [P2.len]; omega
        have LK2 := hide' (HKJ.out.put dj YI.out cn1 CE.out)
        have SB := hide' (set_bits HKJ.out.1 dj cn1)
        subst iv2
        clear hvi hvi' hq K2 G2 P2 hi hcb b0 il hj hU hV iv hcn
        go_upto_region 18 with fail
        go_region
        rw [SB.out]
        have BX2 := hide' (BX.out.drew)
        clear SB
        go_wp2
        exact ⟨⟨j + 1, setB kj j cn, by go_num, rfl, by omega, LK2, BX2⟩, by simp [intOf]; omega⟩
    · have d1 : ¬ (j : Int) < 64 := by omega
      obtain rfl : j = 64 := by omega
      obtain ⟨K2, -, -⟩ := SV.out wr BW.out
      have K3 := hide' K2
      clear K2 c0 c4 l1
      go_wp2_with fail
      have BWW := hide' (show Below w.heap.size w wr from B1.out.trans (BW.out.mono B1.out.size))
      refine (eight_stk sb B g cap qs kj wr K3.out (Nat.le_trans HBB.out BWW.out.size) HN.out).mono ?_
      rintro e w3 ⟨g', cap', qs', t', rfl, hs, he, hk⟩
      have LQ := hide' (show LayQ W H (cellF W xs) qs 0 t x y qs' t' from LayQ.eight K3.out.st HKJ.out.1 he (fun X Y a b c d i => (HKJ.out.done HBT.out ⟨a, b, c, d⟩).1 i) (fun X Y a b c d i => by rw [HKK.out]; exact (HKJ.out.done HBT.out ⟨a, b, c, d⟩).2 i))
      have HS := hide' hs
      have HE := hide' he
      have HKP := hide' hk
      clear hs he hk
      go_wp2
      go_ret
      obtain ⟨ms, e1, e2⟩ := HE.out.app
      exact ⟨g', cap', qs', t', rfl, HS.out, ⟨ms, e1, e2⟩, LQ.out, (KpS.of_below BWW.out).trans HKP.out⟩
end Go.Proofs.YtelocgefaommmaaDoor

