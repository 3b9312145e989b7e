/-
  The reader of package pattern: cells, rows, end.
-/
import Derived.Test.YtpbcgojfpmpgpaaDoorPa7
namespace Go.Proofs.YtpbcgojfpmpgpaaDoor
open Go.RowKit
set_option linter.unusedVariables false

theorem prows (b : Nat) (s : ByteArray) (r : Rv) (w : World) (j y n H : Nat) (h : RAt b s r w) (hi : r.i < s.size) (hs : s.size ≤ 40000) (hj : r.bg = (j : Int)) (hy : r.dn = (y : Int)) (hn : r.tm = (n : Int)) (hH : r.hi = (H : Int)) (ly : y ≤ 100) (ln : n < 1000000) :
    Calls Tryd.prog 74 #[.pointer (some ⟨b, 0, none⟩)] w fun e w' => (H ≤ y + n ∧ e = .returned (.bool false) ∧ RAt b s { r with i := j, fl := 1 } w' ∧ Rd b w w') ∨ (¬ H ≤ y + n ∧ e = .returned (.bool true) ∧ RAt b s { r with i := r.i + 1, rt := 0, dn := ((y + n : Nat) : Int) } w' ∧ Rd b w w') := by
  have A := hide' h
  obtain ⟨c0, c1, c2, c3, c4, c5, c6, c7, c8, c9, f1, f2, f3, f4, f5, f6, f7, f8, f9⟩ := h.ten
  rw [hH] at c4
  rw [hy] at c7
  rw [hj] at c8
  rw [hn] at c9
  clear h hj hy hn hH
  by_cases q : H ≤ y + n
  · have n1 : (H : Int) ≤ (y : Int) + (n : Int) := by omega
    go_enter Tryd.func74, Tryd.ntmps74
    go_wp2
    go_quiet (fail)
    go_wp2_with fail
    refine (pfail b s _ j _ _ _ rfl (A.out.drewN _)).mono ?_
    rintro e w1 ⟨rfl, a1, r1⟩
    have A1 := hide' a1
    have R1 := hide' r1
    clear a1 r1
    go_wp2
    go_ret
    exact Or.inl ⟨q, rfl, A1.out, ((Rd.refl _ _).drewN _).trans R1.out⟩
  · have n1 : ¬ (H : Int) ≤ (y : Int) + (n : Int) := by omega
    go_enter Tryd.func74, Tryd.ntmps74
    go_wp2
    go_quiet (fail)
    go_wp2
    go_region
    go_wp2
    go_ret
    right
    refine ⟨q, rfl, ?_, (((((Rd.refl _ _).drewN _).set _ _).drewN _).set _ _).set _ _⟩
    rw [show (y : Int) + (n : Int) = ((y + n : Nat) : Int) by omega, show (r.i : Int) + 1 = ((r.i + 1 : Nat) : Int) by omega]
    exact ((((A.out.drewN _).set_rt 0).drewN _).set_dn ((y + n : Nat) : Int)).set_i (r.i + 1)

theorem pend (b : Nat) (s : ByteArray) (r : Rv) (w : World) (j : Nat) (h : RAt b s r w) (hi : r.i < s.size) (hs : s.size ≤ 40000) (hj : r.bg = (j : Int)) :
    Calls Tryd.prog 75 #[.pointer (some ⟨b, 0, none⟩)] w fun e w' => (r.i ≠ j ∧ e = .returned (.bool false) ∧ RAt b s { r with i := r.i, fl := 2 } w' ∧ Rd b w w') ∨ (r.i = j ∧ e = .returned (.bool true) ∧ RAt b s { r with i := r.i + 1 } w' ∧ Rd b w w') := by
  have A := hide' h
  obtain ⟨c0, c1, c2, c3, c4, c5, c6, c7, c8, c9, f1, f2, f3, f4, f5, f6, f7, f8, f9⟩ := h.ten
  rw [hj] at c8
  clear h hj
  by_cases q : r.i = j
  · have n1 : ((r.i : Int) == (j : Int)) = true := by simp; omega
    have n2 : ((r.i : Int) != (j : Int)) = false := by simp; omega
    have Q := hide' q
    clear q
    go_enter Tryd.func75, Tryd.ntmps75
    go_wp2
    go_quiet (fail)
    go_wp2
    go_ret
    right
    refine ⟨Q.out, rfl, ?_, ((Rd.refl _ _).drewN _).set _ _⟩
    rw [show (r.i : Int) + 1 = ((r.i + 1 : Nat) : Int) by omega]
    exact (A.out.drewN _).set_i (r.i + 1)
  · have n1 : ((r.i : Int) == (j : Int)) = false := by simp; omega
    have n2 : ((r.i : Int) != (j : Int)) = true := by simp; omega
    have Q := hide' q
    clear q
    go_enter Tryd.func75, Tryd.ntmps75
    go_wp2
    go_quiet (fail)
    go_wp2_with fail
    refine (pfail b s _ r.i _ _ _ rfl (A.out.drewN _)).mono ?_
    rintro e w1 ⟨rfl, a1, r1⟩
    have A1 := hide' a1
    have R1 := hide' r1
    clear a1 r1
    go_wp2
    go_ret
    exact Or.inl ⟨Q.out, rfl, A1.out, ((Rd.refl _ _).drewN _).trans R1.out⟩

set_option maxHeartbeats 1600000 in
theorem pcells (b g : Nat) (s : ByteArray) (r : Rv) (xs : List Int) (w : World) (B j x y n W H : Nat) (c : Int) (h : RAt b s r w) (hC : Cel w g xs) (hi : r.i < s.size) (hs : s.size ≤ 40000) (hj : r.bg = (j : Int)) (hx : r.rt = (x : Int)) (hy : r.dn = (y : Int)) (hn : r.tm = (n : Int)) (hW : r.wd = (W : Int)) (hH : r.hi = (H : Int))
    (hc : r.cs = .slice (some ⟨g, 0, none⟩) (W * H) (W * H)) (hl : xs.length = W * H) (hgb : g ≠ b) (hBb : B ≤ b) (hBg : B ≤ g) (lx : x ≤ W) (ly : y ≤ H) (lW : W ≤ 100) (lH : H ≤ 100) (ln : n < 1000000) :
    Calls Tryd.prog 73 #[.pointer (some ⟨b, 0, none⟩), .int .i64 c] w fun e w' => ((H ≤ y ∨ W < x + n) ∧ e = .returned (.bool false) ∧ RAt b s { r with i := j, fl := 1 } w' ∧ Rd b w w') ∨ (¬ (H ≤ y ∨ W < x + n) ∧ e = .returned (.bool true) ∧ RAt b s { r with i := r.i + 1, rt := ((x + n : Nat) : Int) } w' ∧ Cel w' g (setRun xs (y * W + x) n c) ∧ Below B w w') := by
  have A := hide' h
  have C := hide' hC
  obtain ⟨c0, c1, c2, c3, c4, c5, c6, c7, c8, c9, f1, f2, f3, f4, f5, f6, f7, f8, f9⟩ := h.ten
  rw [hW] at c3
  rw [hH] at c4
  rw [hc] at c5
  rw [hx] at c6
  rw [hy] at c7
  rw [hj] at c8
  rw [hn] at c9
  have RX := hide' hx
  have RC := hide' hc
  have RW := hide' hW
  have RY := hide' hy
  have HL := hide' hl
  clear h hC hj hx hy hn hW hH hc hl
  by_cases q : y = H
  · have n1 : ((y : Int) == (H : Int)) = true := by simp; omega
    have Q := hide' q
    clear q
    go_enter Tryd.func73, Tryd.ntmps73
    go_wp2
    go_quiet (fail)
    go_wp2_with fail
    refine (pfail b s _ j _ _ _ rfl (A.out.drewN _)).mono ?_
    rintro e w1 ⟨rfl, a1, r1⟩
    have A1 := hide' a1
    have R1 := hide' r1
    clear a1 r1
    go_wp2
    go_ret
    exact Or.inl ⟨Or.inl (by have := Q.out; omega), rfl, A1.out, ((Rd.refl _ _).drewN _).trans R1.out⟩
  · have n1 : ((y : Int) == (H : Int)) = false := by simp; omega
    by_cases q2 : W < x + n
    · have n2 : (W : Int) < (x : Int) + (n : Int) := by omega
      go_enter Tryd.func73, Tryd.ntmps73
      go_wp2
      go_quiet (fail)
      go_wp2_with fail
      refine (pfail b s _ j _ _ _ rfl (A.out.drewN _)).mono ?_
      rintro e w1 ⟨rfl, a1, r1⟩
      have A1 := hide' a1
      have R1 := hide' r1
      clear a1 r1
      go_wp2
      go_ret
      exact Or.inl ⟨Or.inr q2, rfl, A1.out, ((Rd.refl _ _).drewN _).trans R1.out⟩
    · have n2 : ¬ (W : Int) < (x : Int) + (n : Int) := by omega
      go_enter Tryd.func73, Tryd.ntmps73
      go_wp2
      go_quiet (fail)
      go_wp2
      obtain ⟨P, hP⟩ : ∃ P, y * W = P := ⟨_, rfl⟩
      obtain ⟨N, hN⟩ : ∃ N, W * H = N := ⟨_, rfl⟩
      have hPN : P + W ≤ N := by
        rw [← hP, ← hN, Nat.mul_comm W H]
        have := Nat.mul_le_mul_right W (show y + 1 ≤ H by omega)
        rw [Nat.add_mul] at this
        omega
      have hN4 : N ≤ 10000 := by rw [← hN]; exact Nat.mul_le_mul lW lH
      have hPi : (y : Int) * (W : Int) = (P : Int) := by rw [← hP]; simp
      have HL' := hide' (show xs.length = N by rw [← hN]; exact HL.out)
      rw [hN] at c5
      have HP := hide' hP
      have HN := hide' hN
      clear hP hN
      go_loopw [42] (fun kv wr => ∃ k R : Nat, kv = .int .i64 (k : Int) ∧ k ≤ n ∧ R = x + k ∧ RAt b s { r with rt := (R : Int) } wr ∧ Cel wr g (setRun xs (P + x) k c) ∧ Below B w wr) (fun kv _ => n - (intOf kv).toNat)
      case atStart => exact ⟨0, x, rfl, by omega, rfl, by rw [← RX.out]; exact A.out.drewN _, C.out.block (Nat.le_refl _) rfl, ⟨rfl, rfl, rfl, Nat.le_refl _, fun _ _ => rfl⟩⟩
      case round =>
        obtain ⟨k, R, rfl, hk, hR, a1, C1, b1⟩ := hrel
        have HRk := hide' hR
        have lR : x ≤ R := by omega
        have lR' : k < n → R < W := by omega
        clear hR
        have A1 := hide' a1
        have CC := hide' C1
        have BB := hide' b1
        have d1 := a1.ten.c1
        have d3 := a1.ten.c3
        have d5 := a1.ten.c5
        have d6 := a1.ten.c6
        have d7 := a1.ten.c7
        have df1 := a1.ten.f1
        have df6 := a1.ten.f6
        dsimp only at d1 d3 d5 d6 d7
        clear a1 C1 b1
        have e5 := RC.out
        rw [HN.out] at e5
        rw [RW.out] at d3
        rw [e5] at d5
        rw [RY.out] at d7
        clear e5
        by_cases d : k < n
        · have n3 : (k : Int) < (n : Int) := by omega
          have hpl : P + R < (setRun xs (P + x) k c).length := by rw [setRun_length, HL'.out]; have := lR' d; omega
          have hv := CC.out.cells (P + R) hpl
          have hf := CC.out.fz (P + R)
          have HPL := hide' hpl
          have hlt : P + R < N := by have := lR' d; omega
          have hlt2 : R < 100 := by have := lR' d; omega
          clear lR'
          clear hpl c0 c1 c2 c3 c4 c5 c6 c7 c8 c9 f1 f2 f3 f4 f5 f6 f7 f8 f9
          go_wp2
          go_region
          have A2 := hide' ((A1.out.setOther (p := ⟨g, P + R, none⟩) hgb.symm (.int .i64 c)).block (w' := (wr.setCell ⟨g, P + R, none⟩ (.int .i64 c)).drew) rfl)
          have e6 := A2.out.ten.c6
          have ef6 := A2.out.ten.f6
          dsimp only at e6
          clear d1 d3 d5 d6 d7 df1 df6 hv hf
          go_wp2
          refine ⟨⟨k + 1, R + 1, by go_num, by omega, by rw [HRk.out]; omega, by rw [show (R : Int) + 1 = ((R + 1 : Nat) : Int) by omega]; exact A2.out.set_rt ((R + 1 : Nat) : Int), ?_, ?_⟩, by simp [intOf]; omega⟩
          · have c2 := CC.out.set (P + R) c HPL.out
            have c3 := c2.block (w' := ((wr.setCell ⟨g, P + R, none⟩ (.int .i64 c)).drew).setCell ⟨b, 6, none⟩ (.int .i64 ((R : Int) + 1))) (by simp [World.setCell, World.drew]) (Below.heap_setCell _ _ _ _ hgb)
            rw [setRun, show P + x + k = P + R by rw [HRk.out]; omega]
            exact c3
          · exact ((BB.out.setCell (p := ⟨g, P + R, none⟩) hBg _).setCell (p := ⟨b, 6, none⟩) hBb _).trans ⟨rfl, rfl, rfl, Nat.le_refl _, fun _ _ => rfl⟩
        · have n3 : ¬ (k : Int) < (n : Int) := by omega
          have K := hide' (show k = n by omega)
          clear c0 c1 c2 c3 c4 c5 c6 c7 c8 c9 f1 f2 f3 f4 f5 f6 f7 f8 f9
          go_wp2
          go_ret
          right
          refine ⟨by omega, rfl, ?_, ?_, BB.out.setCell hBb _⟩
          · have := HRk.out
            rw [K.out] at this
            rw [show (r.i : Int) + 1 = ((r.i + 1 : Nat) : Int) by omega, show (x : Int) + (n : Int) = (R : Int) by omega]
            exact A1.out.set_i (r.i + 1)
          · have c3 := CC.out.block (w' := wr.setCell ⟨b, 1, none⟩ (.int .i64 ((r.i : Int) + 1))) (by simp [World.setCell]) (Below.heap_setCell _ _ _ _ hgb)
            rw [HP.out, ← K.out]
            exact c3
end Go.Proofs.YtpbcgojfpmpgpaaDoor
