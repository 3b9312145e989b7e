/-
  What the last text of this claim leans on, part 31: Wj5, Wk1.
-/
import Derived.Test.YtjngjnkecnnmeaaDoorJb30
namespace Go.Proofs.YtjngjnkecnnmeaaDoor
open Go.RowKit
set_option linter.unusedVariables false

set_option maxRecDepth 100000 in
set_option maxHeartbeats 1600000 in
theorem pDraw_full (W H : Nat) (xs : List Int) (ga off n c : Nat) (w : World) (hP : ArgP w xs (some ⟨ga, off, none⟩) n c) (hc : n ≤ c) (hcm : c ≤ maxLen) (lW : W ≤ 100) (lH : H ≤ 100) (hs : shapeF W H xs = 0) (hn : n = W * H) (hW : 0 < W) :
    Calls Tryd.prog 29 #[.agg #[.int .i64 (W : Int), .int .i64 (H : Int), .slice (some ⟨ga, off, none⟩) n c]] w fun e w' => e = .returned (.tuple #[.string ⟨(drawRows W xs H).toArray⟩, .nilIface]) ∧ Below w.heap.size w w' := by
  have AP0 := hide' (hP.alloc (.cells #[.int .i64 (W : Int), .int .i64 (H : Int), .slice (some ⟨ga, off, none⟩) n c] 51))
  have BX := hide' (TB.new w (.int .i64 (W : Int)) (.int .i64 (H : Int)) (.slice (some ⟨ga, off, none⟩) n c) 51)
  have HL := hide' hP.len
  have HN := hide' hn
  have HS := hide' hs
  have hN4 : n ≤ 10000 := by rw [hn]; exact Nat.mul_le_mul lW lH
  clear hP hn hs
  go_enter Tryd.func29, Tryd.ntmps29
  go_wp2_with fail
  refine (Check_P W H xs (some ⟨ga, off, none⟩) n c _ AP0.out).mono ?_
  rw [HS.out, show errOf 0 = .nilIface from rfl]
  rintro e w2 ⟨rfl, b2⟩
  have hz2 := b2.size
  simp only [World.size_alloc] at hz2
  have BX2 := hide' (BX.out.next b2)
  have AP2 := hide' (AP0.out.below b2)
  have BB := hide' (show Below w.heap.size w w2 from ((Below.refl _ _).alloc (Nat.le_refl _) _).trans (b2.mono (by simp only [World.size_alloc]; omega)))
  have D0 := hide' (DW.start w2)
  obtain ⟨x0, x1, x2, -⟩ := BX2.out.alloc (.cells #[.pointer none, .slice none 0 0] 102)
  clear b2
  go_wp2
  clear x0 x1 x2
  go_loopw [16] (fun yv wr => ∃ y : Nat, yv = .int .i64 (y : Int) ∧ y ≤ H ∧ DW w2 wr (drawRows W xs y)) (fun yv _ => H - (intOf yv).toNat)
  case atStart => exact ⟨0, rfl, by omega, D0.out⟩
  case round =>
    obtain ⟨y, rfl, hy, dw⟩ := hrel
    have DD := hide' dw
    obtain ⟨x0, x1, x2, -⟩ := BX2.out.next dw.below
    clear dw D0
    by_cases d : (y : Int) < (H : Int)
    · obtain ⟨P, hPe⟩ : ∃ P, y * W = P := ⟨_, rfl⟩
      obtain ⟨R, hRe⟩ : ∃ R, (y + 1) * W = R := ⟨_, rfl⟩
      have q1 : (y : Int) * (W : Int) = (P : Int) := by rw [← hPe]; simp
      have q2 : ((y : Int) + 1) * (W : Int) = (R : Int) := by rw [← hRe]; simp
      have hRn : R ≤ n := by rw [← hRe, HN.out, Nat.mul_comm W H]; exact Nat.mul_le_mul_right W (by omega)
      have hPR : R = P + W := by rw [← hRe, ← hPe, Nat.add_mul, Nat.one_mul]
      have HPR := hide' hPR
      have HP0 := hide' hPe
      have g1 : P ≤ R := by omega
      have g2 : R ≤ c := by omega
      have g3 : ¬ c = P := by omega
      clear hPR hPe hRe
      go_wp2
      clear x0 x1 x2
      go_loopw [32] (fun iv wx => ∃ x : Nat, iv = .int .i64 (x : Int) ∧ x ≤ W ∧ DW w2 wx (drawRows W xs y ++ drawRow W xs y x)) (fun iv _ => W - (intOf iv).toNat)
      case atStart => exact ⟨0, rfl, by omega, by simp only [drawRow, List.range_zero, List.flatMap_nil, List.append_nil]; exact DD.out⟩
      case round =>
        obtain ⟨x, rfl, hx, dx⟩ := hrel
        have DX := hide' dx
        have hsx := dx.below.size
        have hlen : (Lib.byteCells (drawRows W xs y ++ drawRow W xs y x)).length ≤ 1000000 := by
          rw [Lib.byteCells_length, List.length_append]
          have h1 := drawRows_le W xs lW y
          have h2 := drawRow_le W xs y x
          omega
        clear dx
        by_cases e : (x : Int) < ((R - P : Nat) : Int)
        · have hxW : x < W := by have := HPR.out; omega
          have hk : P + x < xs.length := by rw [← HL.out]; have := HPR.out; omega
          obtain ⟨ga', off', ee, hga, hcc⟩ := (AP2.out.below DX.out.below).cells (P + x) hk
          injection ee with ee
          injection ee with e1 e2
          subst e1 e2
          rw [← Nat.add_assoc] at hcc
          have STEP := hide' (drawRow_succ W xs y x)
          have hgd : xs.getD (y * W + x) 0 = xs[P + x] := by rw [HP0.out]; simp [List.getD, hk]
          rcases shape_bits HS.out (P + x) hk with z | z
          · rw [z] at hcc hgd
            have CB := hide' (show cellBytes (xs.getD (y * W + x) 0) = [194, 183] by rw [hgd]; rfl)
            clear z hgd
            go_wp2_with fail
            refine (runeOf_0 _).mono ?_
            rintro e w3 ⟨rfl, rfl⟩
            go_wp2_with fail
            refine (writeRune_any 183 _ rune_dot (by decide) (by decide) _ _ _ _ DX.out.bld hsx hlen).mono ?_
            rintro e w4 ⟨rfl, u4, b4⟩
            have D4 := hide' (DX.out.next (m := [194, 183]) (by rw [bytes_dot]; exact u4) b4)
            clear u4 b4
            go_wp2
            refine ⟨⟨x + 1, by go_num, by omega, ?_⟩, by simp [intOf]; omega⟩
            rw [STEP.out, CB.out, ← List.append_assoc]
            exact D4.out
          · rw [z] at hcc hgd
            have CB := hide' (show cellBytes (xs.getD (y * W + x) 0) = [226, 151, 143] by rw [hgd]; rfl)
            clear z hgd
            go_wp2_with fail
            refine (runeOf_1 _).mono ?_
            rintro e w3 ⟨rfl, rfl⟩
            go_wp2_with fail
            refine (writeRune_any 9679 _ rune_disc (by decide) (by decide) _ _ _ _ DX.out.bld hsx hlen).mono ?_
            rintro e w4 ⟨rfl, u4, b4⟩
            have D4 := hide' (DX.out.next (m := [226, 151, 143]) (by rw [bytes_disc]; exact u4) b4)
            clear u4 b4
            go_wp2
            refine ⟨⟨x + 1, by go_num, by omega, ?_⟩, by simp [intOf]; omega⟩
            rw [STEP.out, CB.out, ← List.append_assoc]
            exact D4.out
        · have X := hide' (show x = W by have := HPR.out; omega)
          have STEP := hide' (drawRows_succ W xs y)
          go_wp2_with fail
          refine (writeRune_any 10 _ rune_nl (by decide) (by decide) _ _ _ _ DX.out.bld hsx hlen).mono ?_
          rintro e w4 ⟨rfl, u4, b4⟩
          have D4 := hide' (DX.out.next (m := [10]) (by rw [bytes_nl]; exact u4) b4)
          clear u4 b4
          go_wp2
          refine ⟨⟨y + 1, by go_num, by omega, ?_⟩, by simp [intOf]; omega⟩
          rw [STEP.out]
          have hd := D4.out
          rw [X.out] at hd
          exact hd
    · have Y := hide' (show y = H by omega)
      have hsy := DD.out.below.size
      go_wp2_with fail
      refine (Tryd.bldString_any _ _ _ _ DD.out.bld hsy).mono ?_
      rintro e w4 ⟨rfl, b4⟩
      have B4 := hide' (BB.out.trans ((DD.out.below.trans b4).mono (by omega)))
      clear b4
      go_wp2
      go_ret2
      exact ⟨by rw [Y.out]; rfl, B4.out⟩

set_option maxRecDepth 100000 in
set_option maxHeartbeats 1600000 in
theorem pDraw_thin0 (W H : Nat) (xs : List Int) (a : Option Addr) (n c : Nat) (w : World) (hP : ArgP w xs a n 0) (lW : W ≤ 100) (lH : H ≤ 100) (hs : shapeF W H xs = 0) (hn : n = W * H) (h0 : n = 0) :
    Calls Tryd.prog 29 #[.agg #[.int .i64 (W : Int), .int .i64 (H : Int), .slice a n 0]] w fun e w' => e = .returned (.tuple #[.string ⟨(drawRows W xs H).toArray⟩, .nilIface]) ∧ Below w.heap.size w w' := by
  have AP0 := hide' (hP.alloc (.cells #[.int .i64 (W : Int), .int .i64 (H : Int), .slice a n 0] 51))
  have BX := hide' (TB.new w (.int .i64 (W : Int)) (.int .i64 (H : Int)) (.slice a n 0) 51)
  have HN := hide' (show W * H = 0 by rw [← hn, h0])
  have HS := hide' hs
  clear hP hn hs h0
  go_enter Tryd.func29, Tryd.ntmps29
  go_wp2_with fail
  refine (Check_P W H xs a n 0 _ AP0.out).mono ?_
  rw [HS.out, show errOf 0 = .nilIface from rfl]
  rintro e w2 ⟨rfl, b2⟩
  have hz2 := b2.size
  simp only [World.size_alloc] at hz2
  have BX2 := hide' (BX.out.next b2)
  have BB := hide' (show Below w.heap.size w w2 from ((Below.refl _ _).alloc (Nat.le_refl _) _).trans (b2.mono (by simp only [World.size_alloc]; omega)))
  have D0 := hide' (DW.start w2)
  obtain ⟨x0, x1, x2, -⟩ := BX2.out.alloc (.cells #[.pointer none, .slice none 0 0] 102)
  clear b2
  go_wp2
  clear x0 x1 x2
  go_loopw [16] (fun yv wr => ∃ y : Nat, yv = .int .i64 (y : Int) ∧ y ≤ H ∧ DW w2 wr (drawRows W xs y)) (fun yv _ => H - (intOf yv).toNat)
  case atStart => exact ⟨0, rfl, by omega, D0.out⟩
  case round =>
    obtain ⟨y, rfl, hy, dw⟩ := hrel
    have DD := hide' dw
    obtain ⟨x0, x1, x2, -⟩ := BX2.out.next dw.below
    clear dw D0
    by_cases d : (y : Int) < (H : Int)
    · have W0 : W = 0 := by
        rcases Nat.mul_eq_zero.1 HN.out with h | h
        · exact h
        · omega
      have q1 : (y : Int) * (W : Int) = 0 := by rw [W0]; simp
      have q2 : ((y : Int) + 1) * (W : Int) = 0 := by rw [W0]; simp
      have STEP := hide' (show drawRows W xs (y + 1) = drawRows W xs y ++ [10] by rw [drawRows_succ, W0]; simp [drawRow])
      clear W0
      go_wp2
      clear x0 x1 x2
      go_loopw [32] (fun iv wx => iv = .int .i64 0 ∧ DW w2 wx (drawRows W xs y)) (fun _ _ => 0)
      case atStart => exact ⟨rfl, DD.out⟩
      case round =>
        obtain ⟨rfl, dx⟩ := hrel
        have DX := hide' dx
        have hsx := dx.below.size
        have hlen : (Lib.byteCells (drawRows W xs y)).length ≤ 1000000 := by
          rw [Lib.byteCells_length]
          have h1 := drawRows_le W xs lW y
          omega
        clear dx
        go_wp2_with fail
        refine (writeRune_any 10 _ rune_nl (by decide) (by decide) _ _ _ _ DX.out.bld hsx hlen).mono ?_
        rintro e w4 ⟨rfl, u4, b4⟩
        have D4 := hide' (DX.out.next (m := [10]) (by rw [bytes_nl]; exact u4) b4)
        clear u4 b4
        go_wp2
        refine ⟨⟨y + 1, by go_num, by omega, ?_⟩, by simp [intOf]; omega⟩
        rw [STEP.out]
        exact D4.out
    · have Y := hide' (show y = H by omega)
      have hsy := DD.out.below.size
      go_wp2_with fail
      refine (Tryd.bldString_any _ _ _ _ DD.out.bld hsy).mono ?_
      rintro e w4 ⟨rfl, b4⟩
      have B4 := hide' (BB.out.trans ((DD.out.below.trans b4).mono (by omega)))
      clear b4
      go_wp2
      go_ret2
      exact ⟨by rw [Y.out]; rfl, B4.out⟩

set_option maxRecDepth 100000 in
set_option maxHeartbeats 1600000 in
theorem pDraw_thin1 (W H : Nat) (xs : List Int) (a : Option Addr) (n c : Nat) (w : World) (hP : ArgP w xs a n (c + 1)) (lW : W ≤ 100) (lH : H ≤ 100) (hs : shapeF W H xs = 0) (hn : n = W * H) (h0 : n = 0) :
    Calls Tryd.prog 29 #[.agg #[.int .i64 (W : Int), .int .i64 (H : Int), .slice a n (c + 1)]] w fun e w' => e = .returned (.tuple #[.string ⟨(drawRows W xs H).toArray⟩, .nilIface]) ∧ Below w.heap.size w w' := by
  have AP0 := hide' (hP.alloc (.cells #[.int .i64 (W : Int), .int .i64 (H : Int), .slice a n (c + 1)] 51))
  have BX := hide' (TB.new w (.int .i64 (W : Int)) (.int .i64 (H : Int)) (.slice a n (c + 1)) 51)
  have HN := hide' (show W * H = 0 by rw [← hn, h0])
  have HS := hide' hs
  clear hP hn hs h0
  go_enter Tryd.func29, Tryd.ntmps29
  go_wp2_with fail
  refine (Check_P W H xs a n (c + 1) _ AP0.out).mono ?_
  rw [HS.out, show errOf 0 = .nilIface from rfl]
  rintro e w2 ⟨rfl, b2⟩
  have hz2 := b2.size
  simp only [World.size_alloc] at hz2
  have BX2 := hide' (BX.out.next b2)
  have BB := hide' (show Below w.heap.size w w2 from ((Below.refl _ _).alloc (Nat.le_refl _) _).trans (b2.mono (by simp only [World.size_alloc]; omega)))
  have D0 := hide' (DW.start w2)
  obtain ⟨x0, x1, x2, -⟩ := BX2.out.alloc (.cells #[.pointer none, .slice none 0 0] 102)
  clear b2
  go_wp2
  clear x0 x1 x2
  go_loopw [16] (fun yv wr => ∃ y : Nat, yv = .int .i64 (y : Int) ∧ y ≤ H ∧ DW w2 wr (drawRows W xs y)) (fun yv _ => H - (intOf yv).toNat)
  case atStart => exact ⟨0, rfl, by omega, D0.out⟩
  case round =>
    obtain ⟨y, rfl, hy, dw⟩ := hrel
    have DD := hide' dw
    obtain ⟨x0, x1, x2, -⟩ := BX2.out.next dw.below
    clear dw D0
    by_cases d : (y : Int) < (H : Int)
    · have W0 : W = 0 := by
        rcases Nat.mul_eq_zero.1 HN.out with h | h
        · exact h
        · omega
      have q1 : (y : Int) * (W : Int) = 0 := by rw [W0]; simp
      have q2 : ((y : Int) + 1) * (W : Int) = 0 := by rw [W0]; simp
      have STEP := hide' (show drawRows W xs (y + 1) = drawRows W xs y ++ [10] by rw [drawRows_succ, W0]; simp [drawRow])
      clear W0
      go_wp2
      clear x0 x1 x2
      go_loopw [32] (fun iv wx => iv = .int .i64 0 ∧ DW w2 wx (drawRows W xs y)) (fun _ _ => 0)
      case atStart => exact ⟨rfl, DD.out⟩
      case round =>
        obtain ⟨rfl, dx⟩ := hrel
        have DX := hide' dx
        have hsx := dx.below.size
        have hlen : (Lib.byteCells (drawRows W xs y)).length ≤ 1000000 := by
          rw [Lib.byteCells_length]
          have h1 := drawRows_le W xs lW y
          omega
        clear dx
        go_wp2_with fail
        refine (writeRune_any 10 _ rune_nl (by decide) (by decide) _ _ _ _ DX.out.bld hsx hlen).mono ?_
        rintro e w4 ⟨rfl, u4, b4⟩
        have D4 := hide' (DX.out.next (m := [10]) (by rw [bytes_nl]; exact u4) b4)
        clear u4 b4
        go_wp2
        refine ⟨⟨y + 1, by go_num, by omega, ?_⟩, by simp [intOf]; omega⟩
        rw [STEP.out]
        exact D4.out
    · have Y := hide' (show y = H by omega)
      have hsy := DD.out.below.size
      go_wp2_with fail
      refine (Tryd.bldString_any _ _ _ _ DD.out.bld hsy).mono ?_
      rintro e w4 ⟨rfl, b4⟩
      have B4 := hide' (BB.out.trans ((DD.out.below.trans b4).mono (by omega)))
      clear b4
      go_wp2
      go_ret2
      exact ⟨by rw [Y.out]; rfl, B4.out⟩

theorem pDraw (W H : Nat) (xs : List Int) (a : Option Addr) (n c : Nat) (w : World) (hP : ArgP w xs a n c) (hc : n ≤ c) (hcm : c ≤ maxLen) (lW : W ≤ 100) (lH : H ≤ 100) (hs : shapeF W H xs = 0) (hn : n = W * H) :
    Calls Tryd.prog 29 #[.agg #[.int .i64 (W : Int), .int .i64 (H : Int), .slice a n c]] w fun e w' => e = .returned (.tuple #[.string ⟨(drawRows W xs H).toArray⟩, .nilIface]) ∧ Below w.heap.size w w' := by
  by_cases h0 : n = 0
  · cases c with
    | zero => exact pDraw_thin0 W H xs a n 0 w hP lW lH hs hn h0
    | succ c => exact pDraw_thin1 W H xs a n c w hP lW lH hs hn h0
  · obtain ⟨ga, off, rfl, -⟩ := hP.cells 0 (by rw [← hP.len]; omega)
    refine pDraw_full W H xs ga off n c w hP hc hcm lW lH hs hn ?_
    rcases Nat.eq_zero_or_pos W with e | e
    · rw [e, Nat.zero_mul] at hn
      exact absurd hn h0
    · exact e
end Go.Proofs.YtjngjnkecnnmeaaDoor

namespace Go.Proofs.YtjngjnkecnnmeaaDoor
open Go.RowKit
set_option linter.unusedVariables false

theorem Row8.pushL {w wr w' : World} {v v' : Value} {l m : List UInt8} {o : Obj} (h : Row8 w wr v l)
    (hg : (wr.alloc o).grownBy w' v.ownBlock) (ho : w'.ownsRow w.heap.size 5 1 v' (l.length + m.length) (l.map bval ++ m.map bval)) : Row8 w w' v' (l ++ m) := by
  have hz := h.below.size
  have hob := ownsRow_block h.own
  refine ⟨(h.below.alloc hz _).trans ⟨hg.os, hg.tape, hg.output, hg.size, fun k hk => hg.block k (by rw [World.size_alloc]; omega) (fun e => by have := hob k e.symm; omega)⟩, ?_⟩
  simpa using ho

set_option maxRecDepth 100000 in
set_option maxHeartbeats 1600000 in
theorem refDraw (W H : Nat) (xs : List Int) (a : Option Addr) (n c : Nat) (w : World) (hP : ArgP w xs a n c) (lW : W ≤ 100) (lH : H ≤ 100) (hn : n = W * H) :
    Calls Tryd.prog 35 #[.agg #[.int .i64 (W : Int), .int .i64 (H : Int), .slice a n c]] w fun e w' => e = .returned (.string ⟨(drawRows W xs H).toArray⟩) ∧ Below w.heap.size w w' := by
  obtain ⟨i0, hi, hz0, hz1, hz2⟩ := info_parts info_u8
  obtain ⟨w1, hw1⟩ : ∃ w1, w.alloc (.cells #[.int .i64 (W : Int), .int .i64 (H : Int), .slice a n c] 51) = w1 := ⟨_, rfl⟩
  have AP := hide' (show ArgP w1 xs a n c by rw [← hw1]; exact hP.alloc _)
  have BX := hide' (show TB w.heap.size (.int .i64 (W : Int)) (.int .i64 (H : Int)) (.slice a n c) w1 by rw [← hw1]; exact TB.new w _ _ _ _)
  have BB := hide' (show Below w.heap.size w w1 by rw [← hw1]; exact (Below.refl _ _).alloc (Nat.le_refl _) _)
  have hs1 := BB.out.size
  have S0 := hide' (Row8.start w1)
  have HL := hide' hP.len
  have HN := hide' hn
  have hN4 : n ≤ 10000 := by rw [hn]; exact Nat.mul_le_mul lW lH
  clear hP hn
  go_enter Tryd.func35, Tryd.ntmps35
  go_wp2
  clear hw1
  go_loopw [3, 4] (fun bv yv wr => ∃ y : Nat, yv = .int .i64 (y : Int) ∧ y ≤ H ∧ Row8 w1 wr bv (drawRows W xs y)) (fun _ yv _ => H - (intOf yv).toNat)
  case atStart => exact ⟨0, rfl, by omega, S0.out⟩
  case round =>
    obtain ⟨y, rfl, hy, r8⟩ := hrel
    have RR := hide' r8
    obtain ⟨x0, x1, x2, -⟩ := BX.out.next r8.below
    have ho := r8.own
    obtain ⟨sa, sn, sc, rfl⟩ := ownsRow_slice ho
    have hcv := own_string ho
    clear r8 S0 ho
    by_cases d : (y : Int) < (H : Int)
    · clear hcv
      obtain ⟨P, hPe⟩ : ∃ P, y * W = P := ⟨_, rfl⟩
      have q1 : (y : Int) * (W : Int) = (P : Int) := by rw [← hPe]; simp
      have hPn : P + W ≤ n := by rw [← hPe, HN.out, Nat.mul_comm W H, ← Nat.succ_mul]; exact Nat.mul_le_mul_right W (by omega)
      have HP0 := hide' hPe
      clear hPe
      go_wp2
      clear x0 x1 x2
      go_loopw [3, 5] (fun bv iv wx => ∃ x : Nat, iv = .int .i64 (x : Int) ∧ x ≤ W ∧ Row8 w1 wx bv (drawRows W xs y ++ drawRow W xs y x)) (fun _ iv _ => W - (intOf iv).toNat)
      case atStart => exact ⟨0, rfl, by omega, by simp only [drawRow, List.range_zero, List.flatMap_nil, List.append_nil]; exact RR.out⟩
      case round =>
        obtain ⟨x, rfl, hx, r8⟩ := hrel
        have RX := hide' r8
        have hsx := r8.below.size
        obtain ⟨x0, x1, x2, -⟩ := BX.out.next r8.below
        have ho := r8.own
        obtain ⟨ta, tn, tc, rfl⟩ := ownsRow_slice ho
        have HO := hide' ho
        have hlen : (drawRows W xs y ++ drawRow W xs y x).length ≤ 100000 := by
          rw [List.length_append]
          have h1 := drawRows_le W xs lW y
          have h2 := drawRow_le W xs y x
          omega
        clear r8 ho
        by_cases e : (x : Int) < (W : Int)
        · have hk : P + x < xs.length := by rw [← HL.out]; omega
          have hkn : P + x < n := by omega
          obtain ⟨ga, off, rfl, hga, hcc⟩ := (AP.out.below RX.out.below).cells (P + x) hk
          have STEP := hide' (drawRow_succ W xs y x)
          obtain ⟨z, hz⟩ : ∃ z, xs[P + x] = z := ⟨_, rfl⟩
          have hgd : xs.getD (y * W + x) 0 = z := by rw [HP0.out, ← hz]; simp [List.getD, hk]
          rw [hz] at hcc
          clear hz
          by_cases z1 : z = 1
          · have CB := hide' (show cellBytes (xs.getD (y * W + x) 0) = [226, 151, 143] by rw [hgd, z1]; rfl)
            have m1 : (z == 1) = true := by simp [z1]
            have NB := hide' (World.news_of_block (w := wr.alloc (.cells #[.int .u8 226, .int .u8 151, .int .u8 143] 5)) (cs := #[.int .u8 226, .int .u8 151, .int .u8 143]) (t := 5) (fr := (0, 0)) (heap_alloc_new wr _))
            clear hgd z1
            go_wp2_with (at_builtin; refine wpList_append_own _ rfl _ _ 95 rfl w1.heap.size 5 i0 (.int .u8 0) 1 1 Tryd.underlying95 hi hz0 hz1 hz2 rfl (by decide) (.slice ta tn tc) _ _ rfl (HO.out.alloc _) ⟨wr.heap.size, 0, none⟩ 3 3 [.int .u8 226, .int .u8 151, .int .u8 143] rfl rfl NB.out (fun x hx => by simp at hx; rcases hx with rfl | rfl | rfl <;> rfl) (by unfold maxLen; omega) (by omega) (by simp; omega) ?_; intro v' w4 hown' hgrow3 hnil3; have G3 := hide' hgrow3; have O3 := hide' hown'; clear hgrow3 hown' hnil3)
            refine ⟨⟨x + 1, by go_num, by omega, ?_⟩, by simp [intOf]; omega⟩
            rw [STEP.out, CB.out, ← List.append_assoc]
            exact RX.out.pushL G3.out O3.out
          · have CB := hide' (show cellBytes (xs.getD (y * W + x) 0) = [194, 183] by rw [hgd]; unfold cellBytes; rw [if_neg z1])
            have m1 : (z == 1) = false := by simp [z1]
            have NB := hide' (World.news_of_block (w := wr.alloc (.cells #[.int .u8 194, .int .u8 183] 5)) (cs := #[.int .u8 194, .int .u8 183]) (t := 5) (fr := (0, 0)) (heap_alloc_new wr _))
            clear hgd z1
            go_wp2_with (at_builtin; refine wpList_append_own _ rfl _ _ 95 rfl w1.heap.size 5 i0 (.int .u8 0) 1 1 Tryd.underlying95 hi hz0 hz1 hz2 rfl (by decide) (.slice ta tn tc) _ _ rfl (HO.out.alloc _) ⟨wr.heap.size, 0, none⟩ 2 2 [.int .u8 194, .int .u8 183] rfl rfl NB.out (fun x hx => by simp at hx; rcases hx with rfl | rfl <;> rfl) (by unfold maxLen; omega) (by omega) (by simp; omega) ?_; intro v' w4 hown' hgrow3 hnil3; have G3 := hide' hgrow3; have O3 := hide' hown'; clear hgrow3 hown' hnil3)
            refine ⟨⟨x + 1, by go_num, by omega, ?_⟩, by simp [intOf]; omega⟩
            rw [STEP.out, CB.out, ← List.append_assoc]
            exact RX.out.pushL G3.out O3.out
        · have X := hide' (show x = W by omega)
          have STEP := hide' (drawRows_succ W xs y)
          go_wp2_with (at_builtin; refine wpList_append_own _ rfl _ _ 95 rfl w1.heap.size 5 i0 (.int .u8 0) 1 1 Tryd.underlying95 hi hz0 hz1 hz2 rfl (by decide) (.slice ta tn tc) _ _ rfl (HO.out.alloc _) ⟨wr.heap.size, 0, none⟩ 1 1 [.int .u8 10] rfl rfl (cell_one_new _ _ _) (fun x hx => by simp at hx; subst hx; rfl) (by unfold maxLen; omega) (by omega) (by simp; omega) ?_; intro v' w4 hown' hgrow3 hnil3; have G3 := hide' hgrow3; have O3 := hide' hown'; clear hgrow3 hown' hnil3)
          refine ⟨⟨y + 1, by go_num, by omega, ?_⟩, by simp [intOf]; omega⟩
          rw [STEP.out]
          have hd := RX.out.pushL (m := [10]) G3.out O3.out
          rw [X.out] at hd
          exact hd
    · have Y := hide' (show y = H by omega)
      go_wp2
      go_ret
      have B4 := BB.out.trans (RR.out.below.mono (by omega))
      rw [Y.out]
      exact ⟨rfl, B4⟩
end Go.Proofs.YtjngjnkecnnmeaaDoor

