/-
  What the last text of this claim leans on, part 44: Wm1.
-/
import Derived.Test.YtjngjnkecnnmeaaDoorJw42
namespace Go.Proofs.YtjngjnkecnnmeaaDoor
open Go.RowKit
set_option linter.unusedVariables false

theorem str_app (l m : List UInt8) : (⟨l.toArray⟩ : ByteArray) ++ ⟨m.toArray⟩ = ⟨(l ++ m).toArray⟩ := ByteArray.mk_append_mk _ _

set_option maxRecDepth 100000 in
set_option maxHeartbeats 3200000 in
theorem refRuns (W H : Nat) (xs : List Int) (a : Option Addr) (n c : Nat) (w : World) (hP : ArgP w xs a n c) (lW : W ≤ 100) (lH : H ≤ 100) (hn : n = W * H) :
    Calls Tryd.prog 34 #[.agg #[.int .i64 (W : Int), .int .i64 (H : Int), .slice a n c]] w fun e w' => e = .returned (.string ⟨(runsB ⟨W, H, xs⟩).toArray⟩) ∧ Below w.heap.size w w' := by
  obtain ⟨w1, hw1⟩ : ∃ w1, w.alloc (.cells #[.int .i64 (W : Int), .int .i64 (H : Int), .slice a n c] 51) = w1 := ⟨_, rfl⟩
  have AP := hide' (show ArgP w1 xs a n c by rw [← hw1]; exact hP.alloc _)
  have BX := hide' (show TB w.heap.size (.int .i64 (W : Int)) (.int .i64 (H : Int)) (.slice a n c) w1 by rw [← hw1]; exact TB.new w _ _ _ _)
  have BB := hide' (show Below w.heap.size w w1 by rw [← hw1]; exact (Below.refl _ _).alloc (Nat.le_refl _) _)
  have hs1 := BB.out.size
  have HL := hide' hP.len
  have HN := hide' hn
  have hN4 : n ≤ 10000 := by rw [hn]; exact Nat.mul_le_mul lW lH
  have e1 := dec_len W (by omega)
  have e2 := dec_len H (by omega)
  have m1 : ¬ (9223372036854775807 < 4 + (Lib.decDigits W).length) := by omega
  have m2 : ¬ (9223372036854775807 < 4 + (Lib.decDigits W).length + 6) := by omega
  have m3 : ¬ (9223372036854775807 < 4 + (Lib.decDigits W).length + 6 + (Lib.decDigits H).length) := by omega
  have m4 : ¬ (9223372036854775807 < 4 + (Lib.decDigits W).length + 6 + (Lib.decDigits H).length + 1) := by omega
  clear hP hn
  obtain ⟨x0, x1, x2, -⟩ := BX.out
  go_enter Tryd.func34, Tryd.ntmps34
  go_wp2_with fail
  refine (Digits_ref W _ (by omega)).mono ?_
  rintro e w3 ⟨rfl, b3⟩
  obtain ⟨y0, y1, y2, -⟩ := BX.out.next b3
  have B3 := hide' b3
  clear b3 x0 x1 x2 hw1
  go_wp2_with fail
  refine (Digits_ref H _ (by omega)).mono ?_
  rintro e w4 ⟨rfl, b4⟩
  obtain ⟨x0, x1, x2, -⟩ := (BX.out.next B3.out).next b4
  have B4 := hide' (B3.out.trans (b4.mono B3.out.size))
  clear b4 y0 y1 y2
  go_wp2
  clear x0 x1 x2
  go_loopw [5, 6, 7] (fun sv rv yv wr => ∃ (y r : Nat) (l : List UInt8), yv = .int .i64 (y : Int) ∧ rv = .int .i64 (r : Int) ∧ sv = .string ⟨l.toArray⟩ ∧ y ≤ H ∧ Hid (r = y - (rowsF W xs y).2) ∧ Hid (l = hdrB W H ++ (rowsF W xs y).1) ∧ Below w1.heap.size w1 wr) (fun _ _ yv _ => H - (intOf yv).toNat)
  case atStart => exact ⟨0, 0, hdrB W H, rfl, rfl, by rw [← hdr_str], by omega, hide' rfl, hide' (by rw [show (rowsF W xs 0).1 = [] from rfl, List.append_nil]), B4.out⟩
  case round =>
    obtain ⟨y, r, l, rfl, rfl, rfl, hy, HRr, HLl, bw⟩ := hrel
    have BW := hide' bw
    obtain ⟨x0, x1, x2, -⟩ := BX.out.next bw
    have hln : l.length ≤ 240000 := by
      have h1 := hdr_len W H lW lH
      have h2 := (rowsF_le W xs lW y).2 (by omega)
      rw [HLl.out, List.length_append]
      omega
    have hry : r ≤ y := by rw [HRr.out]; omega
    clear bw B4 B3
    by_cases d : (y : Int) < (H : Int)
    · obtain ⟨P, hPe⟩ : ∃ P, y * W = P := ⟨_, rfl⟩
      have q1 : (y : Int) * (W : Int) = (P : Int) := by rw [← hPe]; simp
      have hPn : P + W ≤ n := by rw [← hPe, HN.out, Nat.mul_comm W H, ← Nat.succ_mul]; exact Nat.mul_le_mul_right W (by omega)
      obtain ⟨f, hf⟩ : ∃ f : Nat → Int, f = fun i => xs.getD (y * W + i) 0 := ⟨_, rfl⟩
      have FX := hide' (show ∀ i, i < W → ∃ h : P + i < xs.length, f i = xs[P + i] from fun i hi => by
        have hk : P + i < xs.length := by rw [← HL.out]; omega
        exact ⟨hk, by rw [hf, hPe]; simp [List.getD, hk]⟩)
      have HF := hide' hf
      clear hPe hf
      go_wp2
      go_loop [8] (fun kv => ∃ k : Nat, kv = .int .i64 (k : Int) ∧ k ≤ W ∧ Hid (endF f k = endF f W)) (fun kv => (intOf kv).toNat)
      case atStart => exact ⟨W, rfl, Nat.le_refl _, hide' rfl⟩
      case round =>
        obtain ⟨k, rfl, hk, HE⟩ := hrel
        cases k with
        | zero =>
          have RN := hide' (show rowsF W xs (y + 1) = rowsF W xs y from rowsF_no (by rw [← HF.out, ← HE.out]; rfl))
          have RL := hide' (rowsF_le W xs lW y).1
          go_wp2
          go_loop [5, 10] (fun sv xv => sv = .string ⟨l.toArray⟩ ∧ xv = .int .i64 0) (fun _ _ => 0)
          case atStart => exact ⟨rfl, rfl⟩
          case round =>
            obtain ⟨rfl, rfl⟩ := hrel
            go_wp2
            refine ⟨⟨y + 1, r + 1, l, by go_num, by go_num, rfl, by omega, hide' (by rw [RN.out, HRr.out]; have := RL.out; omega), hide' (by rw [RN.out]; exact HLl.out), BW.out⟩, by simp [intOf]; omega⟩
        | succ k =>
          obtain ⟨hkl, hfk⟩ := FX.out k (by omega)
          obtain ⟨ga, off, rfl, hga, hcc⟩ := (AP.out.below BW.out).cells (P + k) hkl
          rw [← hfk] at hcc
          obtain ⟨z, hz⟩ : ∃ z, f k = z := ⟨_, rfl⟩
          rw [hz] at hcc
          have HZ := hide' hz
          have q3 : (P : Int) + ((k + 1 : Nat) : Int) - 1 = ((P + k : Nat) : Int) := by omega
          have q4 : (P : Int) + ((k : Int) + 1) - 1 = ((P + k : Nat) : Int) := by omega
          have hkn : P + k < n := by omega
          clear hz hfk
          by_cases z0 : z = 0
          · have k0 : (z == 0) = true := by simp [z0]
            have E := hide' (show endF f k = endF f W by rw [← HE.out, endF_zero (by rw [HZ.out]; exact z0)])
            clear z0
            go_wp2
            exact ⟨⟨k, rfl, by omega, hide' E.out⟩, by simp [intOf]⟩
          · have k0 : (z == 0) = false := by simp [z0]
            have E := hide' (show endF f W = k + 1 by rw [← HE.out, endF_one (by rw [HZ.out]; exact z0)])
            clear z0
            obtain ⟨m, hm⟩ : ∃ m, k + 1 = m := ⟨_, rfl⟩
            rw [hm] at E
            rw [hm]
            have q5 : (P : Int) + (m : Int) - 1 = ((P + k : Nat) : Int) := by omega
            have hm0 : (0 : Int) < (m : Int) := by omega
            have hmW : m ≤ W := by omega
            have RN := hide' (rowsF_yes HF.out E.out (by omega))
            have FC := hide' (show ∀ wx, Below w1.heap.size w1 wx → ∀ i, i < W → wx.cell? ⟨ga, off + (P + i), none⟩ = some (.int .i64 (f i)) from fun wx hb i hi => by
              obtain ⟨hk2, e⟩ := FX.out i hi
              obtain ⟨ga', off', ee, -, hc2⟩ := (AP.out.below hb).cells (P + i) hk2
              injection ee with ee
              injection ee with e1 e2
              subst e1 e2
              rw [hc2, e])
            have tl0 := times_len r 36 (by omega)
            have m6 : ¬ (9223372036854775807 < l.length + (timesB r 36).length) := by omega
            clear q3 q4
            go_wp2_with fail
            refine (refTimes r 36 _ (by omega)).mono ?_
            rintro e w5 ⟨rfl, b5⟩
            have B5 := hide' (BW.out.trans (b5.mono BW.out.size))
            clear b5 hcc x0 x1 x2
            obtain ⟨x0, x1, x2, -⟩ := BX.out.next B5.out
            go_wp2
            clear x0 x1 x2
            go_loopw [5, 10] (fun sv xv wx => ∃ (x : Nat) (l' : List UInt8), xv = .int .i64 (x : Int) ∧ sv = .string ⟨l'.toArray⟩ ∧ x ≤ m ∧ l'.length ≤ 250000 + 22 * x ∧ Hid (l' ++ runsF f m (m - x) x = l ++ timesB r 36 ++ runsF f m m 0) ∧ Below w1.heap.size w1 wx) (fun _ xv _ => m - (intOf xv).toNat)
            case atStart => exact ⟨0, l ++ timesB r 36, rfl, by rw [← str_app], by omega, by rw [List.length_append]; omega, hide' rfl, B5.out⟩
            case round =>
              obtain ⟨x, l', rfl, rfl, hx, hl', HR6, b6⟩ := hrel
              have B6 := hide' b6
              obtain ⟨x0, x1, x2, -⟩ := BX.out.next b6
              clear b6
              by_cases dx : (x : Int) < (m : Int)
              · have hxm : x < m := by omega
                have hcx := FC.out _ B6.out x (by omega)
                obtain ⟨z, hz6⟩ : ∃ z, f x = z := ⟨_, rfl⟩
                rw [hz6] at hcx
                have HZ6 := hide' hz6
                have NS := hide' (show cntF f z (m - x) x = nextF f m x by rw [← hz6]; rfl)
                have hxn : P + x < n := by omega
                clear hz6
                go_wp2
                go_loop [11, 10] (fun nv xv => ∃ t X : Nat, nv = .int .i64 (t : Int) ∧ xv = .int .i64 (X : Int) ∧ Hid (X = x + t) ∧ X ≤ m ∧ Hid (cntF f z (m - X) X = nextF f m x)) (fun _ xv => m - (intOf xv).toNat)
                case atStart => exact ⟨0, x, rfl, rfl, hide' rfl, hx, hide' NS.out⟩
                case round =>
                  obtain ⟨t, X, rfl, rfl, HX, hXm, HT⟩ := hrel
                  have ht100 : t ≤ 100 := by have := HX.out; omega
                  by_cases eX : (X : Int) < (m : Int)
                  · have hcX := FC.out _ B6.out X (by omega)
                    obtain ⟨u, hu⟩ : ∃ u, f X = u := ⟨_, rfl⟩
                    rw [hu] at hcX
                    have hXn : P + X < n := by omega
                    by_cases uz : u = z
                    · have v1 : (u == z) = true := by simp [uz]
                      have STEP := hide' (show cntF f z (m - (X + 1)) (X + 1) = nextF f m x by have h1 := cnt_yes (f := f) (z := z) (m := m) (y := X) (by omega) (by rw [hu]; exact uz); rw [← HT.out, h1])
                      clear uz hu
                      go_wp2
                      refine ⟨⟨t + 1, X + 1, by go_num, by go_num, hide' (by have := HX.out; omega), by omega, hide' STEP.out⟩, by simp [intOf]; omega⟩
                    · have v1 : (u == z) = false := by simp [uz]
                      have XN := hide' (show X = nextF f m x by rw [← HT.out, cnt_no (by omega) (by rw [hu]; exact uz)])
                      have XL := (nextF_lt (f := f) hxm).1
                      rw [← XN.out] at XL
                      clear uz hu
                      by_cases z1 : z = 1
                      · have v2 : (z == 1) = true := by simp [z1]
                        have TG := hide' (show tagB z = 111 by rw [z1]; rfl)
                        clear z1
                        go_wp2_with fail
                        refine (refTimes t 111 _ (by omega)).mono ?_
                        rintro e w7 ⟨rfl, b7⟩
                        have B7 := hide' (B6.out.trans (b7.mono B6.out.size))
                        have tl := times_len t 111 (by omega)
                        have m8 : ¬ (9223372036854775807 < l'.length + (timesB t 111).length) := by omega
                        obtain ⟨y0, y1, y2, -⟩ := BX.out.next B7.out
                        clear b7
                        go_wp2
                        refine ⟨⟨X, l' ++ timesB t 111, rfl, by rw [← str_app], by omega, by rw [List.length_append]; omega, hide' ?_, B7.out⟩, by simp [intOf]; omega⟩
                        rw [← HR6.out, runsF_step hxm, ← XN.out, show X - x = t by have := HX.out; omega, HZ6.out, TG.out, List.append_assoc]
                      · have v2 : (z == 1) = false := by simp [z1]
                        have TG := hide' (show tagB z = 98 by unfold tagB; rw [if_neg z1])
                        clear z1
                        go_wp2_with fail
                        refine (refTimes t 98 _ (by omega)).mono ?_
                        rintro e w7 ⟨rfl, b7⟩
                        have B7 := hide' (B6.out.trans (b7.mono B6.out.size))
                        have tl := times_len t 98 (by omega)
                        have m8 : ¬ (9223372036854775807 < l'.length + (timesB t 98).length) := by omega
                        obtain ⟨y0, y1, y2, -⟩ := BX.out.next B7.out
                        clear b7
                        go_wp2
                        refine ⟨⟨X, l' ++ timesB t 98, rfl, by rw [← str_app], by omega, by rw [List.length_append]; omega, hide' ?_, B7.out⟩, by simp [intOf]; omega⟩
                        rw [← HR6.out, runsF_step hxm, ← XN.out, show X - x = t by have := HX.out; omega, HZ6.out, TG.out, List.append_assoc]
                  · have XN := hide' (show X = nextF f m x by rw [← HT.out, show X = m by omega, Nat.sub_self]; rfl)
                    have XL := (nextF_lt (f := f) hxm).1
                    rw [← XN.out] at XL
                    by_cases z1 : z = 1
                    · have v2 : (z == 1) = true := by simp [z1]
                      have TG := hide' (show tagB z = 111 by rw [z1]; rfl)
                      clear z1
                      go_wp2_with fail
                      refine (refTimes t 111 _ (by omega)).mono ?_
                      rintro e w7 ⟨rfl, b7⟩
                      have B7 := hide' (B6.out.trans (b7.mono B6.out.size))
                      have tl := times_len t 111 (by omega)
                      have m8 : ¬ (9223372036854775807 < l'.length + (timesB t 111).length) := by omega
                      obtain ⟨y0, y1, y2, -⟩ := BX.out.next B7.out
                      clear b7
                      go_wp2
                      refine ⟨⟨X, l' ++ timesB t 111, rfl, by rw [← str_app], by omega, by rw [List.length_append]; omega, hide' ?_, B7.out⟩, by simp [intOf]; omega⟩
                      rw [← HR6.out, runsF_step hxm, ← XN.out, show X - x = t by have := HX.out; omega, HZ6.out, TG.out, List.append_assoc]
                    · have v2 : (z == 1) = false := by simp [z1]
                      have TG := hide' (show tagB z = 98 by unfold tagB; rw [if_neg z1])
                      clear z1
                      go_wp2_with fail
                      refine (refTimes t 98 _ (by omega)).mono ?_
                      rintro e w7 ⟨rfl, b7⟩
                      have B7 := hide' (B6.out.trans (b7.mono B6.out.size))
                      have tl := times_len t 98 (by omega)
                      have m8 : ¬ (9223372036854775807 < l'.length + (timesB t 98).length) := by omega
                      obtain ⟨y0, y1, y2, -⟩ := BX.out.next B7.out
                      clear b7
                      go_wp2
                      refine ⟨⟨X, l' ++ timesB t 98, rfl, by rw [← str_app], by omega, by rw [List.length_append]; omega, hide' ?_, B7.out⟩, by simp [intOf]; omega⟩
                      rw [← HR6.out, runsF_step hxm, ← XN.out, show X - x = t by have := HX.out; omega, HZ6.out, TG.out, List.append_assoc]
              · have NX := hide' (show l' = l ++ timesB r 36 ++ runsF f m m 0 by rw [← HR6.out, show x = m by omega, runsF_end, List.append_nil])
                go_wp2
                refine ⟨⟨y + 1, 1, l', by go_num, by go_num, rfl, by omega, hide' (by rw [RN.out]; dsimp only; omega), hide' ?_, B6.out⟩, by simp [intOf]; omega⟩
                rw [RN.out, NX.out, HLl.out, HRr.out]
                dsimp only
                simp only [List.append_assoc]
    · have Y := hide' (show y = H by omega)
      have RB := hide' (show runsB ⟨W, H, xs⟩ = l ++ [33, 10] by rw [HLl.out, ← Y.out]; rfl)
      have m5 : ¬ (9223372036854775807 < l.length + 2) := by omega
      go_wp2
      go_ret
      have B7 := BB.out.trans (BW.out.mono hs1)
      refine ⟨?_, B7⟩
      rw [RB.out]
      rfl
end Go.Proofs.YtjngjnkecnnmeaaDoor

