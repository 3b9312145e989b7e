/-
  What the last text of this claim leans on, part 43: Wl5.
-/
import Derived.Test.YtjngjnkecnnmeaaDoorJw42
namespace Go.Proofs.YtjngjnkecnnmeaaDoor
open Go.RowKit
set_option linter.unusedVariables false

set_option maxRecDepth 100000 in
set_option maxHeartbeats 2000000 in
theorem pRuns_thin0 (W H : Nat) (xs : List Int) (a : Option Addr) (n c : Nat) (w : World) (hP : ArgP w xs a n 0) (hT : PowT w) (lW : W ≤ 100) (lH : H ≤ 100) (hs : shapeF W H xs = 0) (hn : n = W * H) (h0 : n = 0) :
    Calls Tryd.prog 28 #[.agg #[.int .i64 (W : Int), .int .i64 (H : Int), .slice a n 0]] w fun e w' => e = .returned (.tuple #[.string ⟨(runsB ⟨W, H, xs⟩).toArray⟩, .nilIface]) ∧ Below w.heap.size w w' := by
  have AP0 := hide' (hP.alloc (.cells #[.int .i64 (W : Int), .int .i64 (H : Int), .slice a n 0] 51))
  have BX := hide' (TB.new w (.int .i64 (W : Int)) (.int .i64 (H : Int)) (.slice a n 0) 51)
  have HL := hide' hP.len
  have HN := hide' hn
  have H0 := hide' h0
  have HS := hide' hs
  have HT := hide' hT
  have hN4 : n ≤ 10000 := by rw [hn]; exact Nat.mul_le_mul lW lH
  clear hP hn hs hT h0
  go_enter Tryd.func28, Tryd.ntmps28
  go_wp2_with fail
  refine (Check_P W H xs a n 0 _ AP0.out).mono ?_
  rw [HS.out, show errOf 0 = .nilIface from rfl]
  rintro e w2 ⟨rfl, b2⟩
  have hz2 := b2.size
  simp only [World.size_alloc] at hz2
  have BX2 := hide' (BX.out.next b2)
  have AP2 := hide' (AP0.out.below b2)
  have BB := hide' (show Below w.heap.size w w2 from ((Below.refl _ _).alloc (Nat.le_refl _) _).trans (b2.mono (by simp only [World.size_alloc]; omega)))
  have PT := hide' (HT.out.below (show Below w.heap.size w w2 from BB.out))
  have D0 := hide' (DW.start w2)
  have e1 := dec_len W (by omega)
  have e2 := dec_len H (by omega)
  have m1 : ¬ (9223372036854775807 < 4 + (Lib.decDigits W).length) := by omega
  have m2 : ¬ (9223372036854775807 < 4 + (Lib.decDigits W).length + 6) := by omega
  have m3 : ¬ (9223372036854775807 < 4 + (Lib.decDigits W).length + 6 + (Lib.decDigits H).length) := by omega
  have m4 : ¬ (9223372036854775807 < 4 + (Lib.decDigits W).length + 6 + (Lib.decDigits H).length + 1) := by omega
  clear b2
  go_upto_region 5 with fail
  go_region_held3 (fun w' => w'.cell? ⟨w.heap.size, 0, none⟩ = some (.int .i64 (W : Int)) ∧ w'.cell? ⟨w.heap.size, 1, none⟩ = some (.int .i64 (H : Int)) ∧ Hid (Below w2.heap.size w2 w'))
    (first | (show SR w w2 W H _; with_reducible exact SR.mk BX2.out D5.out) | (show SR w w2 W H _; with_reducible exact SR.mk BX2.out D4.out) | (show SR w w2 W H _; with_reducible exact SR.mk BX2.out D3.out) | (show SR w w2 W H _; with_reducible exact SR.mkd BX2.out D0.out))
    (first
      | (go_at_call_of 72 (Value.int .i64 (W : Int)); refine (itoaN W (by omega) _ (PT.out.below D0.out.drew.below)).mono ?_; rintro e w3 ⟨rfl, b3⟩; have D3 := hide' (D0.out.drew.keep b3); clear b3)
      | (go_at_call_of 72 (Value.int .i64 (H : Int)); refine (itoaN H (by omega) _ (PT.out.below D3.out.below)).mono ?_; rintro e w4 ⟨rfl, b4⟩; have D4 := hide' (D3.out.keep b4); clear b4)
      | (go_at_call 71; refine (writeString_any _ _ _ _ _ D4.out.bld D4.out.below.size (by simp [Lib.byteCells]) (by rw [hdr_str]; show (hdrB W H).toArray.size ≤ _; rw [List.size_toArray]; exact Nat.le_trans (hdr_len W H lW lH) (by decide))).mono ?_; rintro e w5 ⟨rfl, u5, b5⟩; rw [hdr_str] at u5; have D5 := hide' (D4.out.next (m := hdrB W H) u5 b5); clear u5 b5))
  obtain ⟨x0, x1, x2, -⟩ := BX2.out.next D5.out.below
  rw [List.nil_append] at D5
  have D6 := hide' (show DW w2 w5 (hdrB W H ++ (rowsF W xs 0).1) by rw [show (rowsF W xs 0).1 = [] from rfl, List.append_nil]; exact D5.out)
  go_wp2
  clear x0 x1 x2
  go_loopw [6, 27] (fun dv yv wr => ∃ y d : Nat, yv = .int .i64 (y : Int) ∧ dv = .int .i64 (d : Int) ∧ y ≤ H ∧ Hid (d = (rowsF W xs y).2) ∧ DW w2 wr (hdrB W H ++ (rowsF W xs y).1)) (fun _ yv _ => H - (intOf yv).toNat)
  case atStart => exact ⟨0, 0, rfl, rfl, by omega, hide' rfl, D6.out⟩
  case round =>
    obtain ⟨y, dd, rfl, rfl, hy, HD, dw⟩ := hrel
    have DD := hide' dw
    obtain ⟨x0, x1, x2, -⟩ := BX2.out.next dw.below
    have hln : (hdrB W H ++ (rowsF W xs y).1).length ≤ 240000 := by
      have h1 := hdr_len W H lW lH
      have h2 := (rowsF_le W xs lW y).2 (by omega)
      rw [List.length_append]
      omega
    have hdy : dd ≤ y := by rw [HD.out]; exact (rowsF_le W xs lW y).1
    clear dw D6 D5 D4 D3 D0
    by_cases d : (y : Int) < (H : Int)
    · have W0 : W = 0 := by
        have hz : W * H = 0 := by rw [← HN.out]; exact H0.out
        rcases Nat.mul_eq_zero.1 hz with h | h
        · exact h
        · omega
      have q1 : (y : Int) * (W : Int) = 0 := by rw [W0]; simp
      have q2 : ((y : Int) + 1) * (W : Int) = 0 := by rw [W0]; simp
      have RN := hide' (show rowsF W xs (y + 1) = rowsF W xs y from rowsF_no (by rw [W0]; rfl))
      clear W0
      go_wp2_with fail
      refine (withoutEnd_none _ _ _).mono ?_
      rintro e w6 ⟨rfl, rfl⟩
      go_wp2
      refine ⟨⟨y + 1, dd, by go_num, rfl, by omega, hide' (by rw [RN.out]; exact HD.out), ?_⟩, by simp [intOf]; omega⟩
      rw [RN.out]
      exact DD.out
    · have Y := hide' (show y = H by omega)
      have hsy := DD.out.below.size
      go_wp2_with fail
      refine (writeString_any _ _ _ _ _ DD.out.bld hsy (by rw [Lib.byteCells_length]; omega) (by decide)).mono ?_
      rintro e w6 ⟨rfl, u6, b6⟩
      have D6 := hide' (DD.out.next (m := [33, 10]) u6 b6)
      have hs6 := D6.out.below.size
      clear u6 b6
      go_wp2_with fail
      refine (Tryd.bldString_any _ _ _ _ D6.out.bld hs6).mono ?_
      rintro e w7 ⟨rfl, b7⟩
      have B7 := hide' (BB.out.trans ((D6.out.below.trans b7).mono (by omega)))
      clear b7
      go_wp2
      go_ret2
      have RB := hide' (show runsB ⟨W, H, xs⟩ = hdrB W H ++ ((rowsF W xs H).1 ++ [33, 10]) by rw [← List.append_assoc]; rfl)
      exact ⟨by rw [Y.out, RB.out]; rfl, B7.out⟩

set_option maxRecDepth 100000 in
set_option maxHeartbeats 2000000 in
theorem pRuns_thin1 (W H : Nat) (xs : List Int) (a : Option Addr) (n c : Nat) (w : World) (hP : ArgP w xs a n (c + 1)) (hT : PowT w) (lW : W ≤ 100) (lH : H ≤ 100) (hs : shapeF W H xs = 0) (hn : n = W * H) (h0 : n = 0) :
    Calls Tryd.prog 28 #[.agg #[.int .i64 (W : Int), .int .i64 (H : Int), .slice a n (c + 1)]] w fun e w' => e = .returned (.tuple #[.string ⟨(runsB ⟨W, H, xs⟩).toArray⟩, .nilIface]) ∧ Below w.heap.size w w' := by
  have AP0 := hide' (hP.alloc (.cells #[.int .i64 (W : Int), .int .i64 (H : Int), .slice a n (c + 1)] 51))
  have BX := hide' (TB.new w (.int .i64 (W : Int)) (.int .i64 (H : Int)) (.slice a n (c + 1)) 51)
  have HL := hide' hP.len
  have HN := hide' hn
  have H0 := hide' h0
  have HS := hide' hs
  have HT := hide' hT
  have hN4 : n ≤ 10000 := by rw [hn]; exact Nat.mul_le_mul lW lH
  clear hP hn hs hT h0
  go_enter Tryd.func28, Tryd.ntmps28
  go_wp2_with fail
  refine (Check_P W H xs a n (c + 1) _ AP0.out).mono ?_
  rw [HS.out, show errOf 0 = .nilIface from rfl]
  rintro e w2 ⟨rfl, b2⟩
  have hz2 := b2.size
  simp only [World.size_alloc] at hz2
  have BX2 := hide' (BX.out.next b2)
  have AP2 := hide' (AP0.out.below b2)
  have BB := hide' (show Below w.heap.size w w2 from ((Below.refl _ _).alloc (Nat.le_refl _) _).trans (b2.mono (by simp only [World.size_alloc]; omega)))
  have PT := hide' (HT.out.below (show Below w.heap.size w w2 from BB.out))
  have D0 := hide' (DW.start w2)
  have e1 := dec_len W (by omega)
  have e2 := dec_len H (by omega)
  have m1 : ¬ (9223372036854775807 < 4 + (Lib.decDigits W).length) := by omega
  have m2 : ¬ (9223372036854775807 < 4 + (Lib.decDigits W).length + 6) := by omega
  have m3 : ¬ (9223372036854775807 < 4 + (Lib.decDigits W).length + 6 + (Lib.decDigits H).length) := by omega
  have m4 : ¬ (9223372036854775807 < 4 + (Lib.decDigits W).length + 6 + (Lib.decDigits H).length + 1) := by omega
  clear b2
  go_upto_region 5 with fail
  go_region_held3 (fun w' => w'.cell? ⟨w.heap.size, 0, none⟩ = some (.int .i64 (W : Int)) ∧ w'.cell? ⟨w.heap.size, 1, none⟩ = some (.int .i64 (H : Int)) ∧ Hid (Below w2.heap.size w2 w'))
    (first | (show SR w w2 W H _; with_reducible exact SR.mk BX2.out D5.out) | (show SR w w2 W H _; with_reducible exact SR.mk BX2.out D4.out) | (show SR w w2 W H _; with_reducible exact SR.mk BX2.out D3.out) | (show SR w w2 W H _; with_reducible exact SR.mkd BX2.out D0.out))
    (first
      | (go_at_call_of 72 (Value.int .i64 (W : Int)); refine (itoaN W (by omega) _ (PT.out.below D0.out.drew.below)).mono ?_; rintro e w3 ⟨rfl, b3⟩; have D3 := hide' (D0.out.drew.keep b3); clear b3)
      | (go_at_call_of 72 (Value.int .i64 (H : Int)); refine (itoaN H (by omega) _ (PT.out.below D3.out.below)).mono ?_; rintro e w4 ⟨rfl, b4⟩; have D4 := hide' (D3.out.keep b4); clear b4)
      | (go_at_call 71; refine (writeString_any _ _ _ _ _ D4.out.bld D4.out.below.size (by simp [Lib.byteCells]) (by rw [hdr_str]; show (hdrB W H).toArray.size ≤ _; rw [List.size_toArray]; exact Nat.le_trans (hdr_len W H lW lH) (by decide))).mono ?_; rintro e w5 ⟨rfl, u5, b5⟩; rw [hdr_str] at u5; have D5 := hide' (D4.out.next (m := hdrB W H) u5 b5); clear u5 b5))
  obtain ⟨x0, x1, x2, -⟩ := BX2.out.next D5.out.below
  rw [List.nil_append] at D5
  have D6 := hide' (show DW w2 w5 (hdrB W H ++ (rowsF W xs 0).1) by rw [show (rowsF W xs 0).1 = [] from rfl, List.append_nil]; exact D5.out)
  go_wp2
  clear x0 x1 x2
  go_loopw [6, 27] (fun dv yv wr => ∃ y d : Nat, yv = .int .i64 (y : Int) ∧ dv = .int .i64 (d : Int) ∧ y ≤ H ∧ Hid (d = (rowsF W xs y).2) ∧ DW w2 wr (hdrB W H ++ (rowsF W xs y).1)) (fun _ yv _ => H - (intOf yv).toNat)
  case atStart => exact ⟨0, 0, rfl, rfl, by omega, hide' rfl, D6.out⟩
  case round =>
    obtain ⟨y, dd, rfl, rfl, hy, HD, dw⟩ := hrel
    have DD := hide' dw
    obtain ⟨x0, x1, x2, -⟩ := BX2.out.next dw.below
    have hln : (hdrB W H ++ (rowsF W xs y).1).length ≤ 240000 := by
      have h1 := hdr_len W H lW lH
      have h2 := (rowsF_le W xs lW y).2 (by omega)
      rw [List.length_append]
      omega
    have hdy : dd ≤ y := by rw [HD.out]; exact (rowsF_le W xs lW y).1
    clear dw D6 D5 D4 D3 D0
    by_cases d : (y : Int) < (H : Int)
    · have W0 : W = 0 := by
        have hz : W * H = 0 := by rw [← HN.out]; exact H0.out
        rcases Nat.mul_eq_zero.1 hz with h | h
        · exact h
        · omega
      have q1 : (y : Int) * (W : Int) = 0 := by rw [W0]; simp
      have q2 : ((y : Int) + 1) * (W : Int) = 0 := by rw [W0]; simp
      have RN := hide' (show rowsF W xs (y + 1) = rowsF W xs y from rowsF_no (by rw [W0]; rfl))
      clear W0
      go_wp2_with fail
      refine (withoutEnd_none _ _ _).mono ?_
      rintro e w6 ⟨rfl, rfl⟩
      go_wp2
      refine ⟨⟨y + 1, dd, by go_num, rfl, by omega, hide' (by rw [RN.out]; exact HD.out), ?_⟩, by simp [intOf]; omega⟩
      rw [RN.out]
      exact DD.out
    · have Y := hide' (show y = H by omega)
      have hsy := DD.out.below.size
      go_wp2_with fail
      refine (writeString_any _ _ _ _ _ DD.out.bld hsy (by rw [Lib.byteCells_length]; omega) (by decide)).mono ?_
      rintro e w6 ⟨rfl, u6, b6⟩
      have D6 := hide' (DD.out.next (m := [33, 10]) u6 b6)
      have hs6 := D6.out.below.size
      clear u6 b6
      go_wp2_with fail
      refine (Tryd.bldString_any _ _ _ _ D6.out.bld hs6).mono ?_
      rintro e w7 ⟨rfl, b7⟩
      have B7 := hide' (BB.out.trans ((D6.out.below.trans b7).mono (by omega)))
      clear b7
      go_wp2
      go_ret2
      have RB := hide' (show runsB ⟨W, H, xs⟩ = hdrB W H ++ ((rowsF W xs H).1 ++ [33, 10]) by rw [← List.append_assoc]; rfl)
      exact ⟨by rw [Y.out, RB.out]; rfl, B7.out⟩

theorem pRuns (W H : Nat) (xs : List Int) (a : Option Addr) (n c : Nat) (w : World) (hP : ArgP w xs a n c) (hT : PowT w) (hc : n ≤ c) (hcm : c ≤ maxLen) (lW : W ≤ 100) (lH : H ≤ 100) (hs : shapeF W H xs = 0) (hn : n = W * H) :
    Calls Tryd.prog 28 #[.agg #[.int .i64 (W : Int), .int .i64 (H : Int), .slice a n c]] w fun e w' => e = .returned (.tuple #[.string ⟨(runsB ⟨W, H, xs⟩).toArray⟩, .nilIface]) ∧ Below w.heap.size w w' := by
  by_cases h0 : n = 0
  · cases c with
    | zero => exact pRuns_thin0 W H xs a n 0 w hP hT lW lH hs hn h0
    | succ c => exact pRuns_thin1 W H xs a n c w hP hT lW lH hs hn h0
  · obtain ⟨ga, off, rfl, -⟩ := hP.cells 0 (by rw [← hP.len]; omega)
    refine pRuns_full W H xs ga off n c w hP hT hc hcm lW lH hs hn ?_
    rcases Nat.eq_zero_or_pos W with e | e
    · rw [e, Nat.zero_mul] at hn
      exact absurd hn h0
    · exact e
end Go.Proofs.YtjngjnkecnnmeaaDoor

