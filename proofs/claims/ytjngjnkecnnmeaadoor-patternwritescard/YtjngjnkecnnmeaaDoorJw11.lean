/-
  What the last text of this claim leans on, part 11: Pa7, Pa8.
-/
import Derived.Test.YtjngjnkecnnmeaaDoorJw7
namespace Go.Proofs.YtjngjnkecnnmeaaDoor
open Go.RowKit
set_option linter.unusedVariables false

theorem bts_x : bts ⟨#[120, 32, 61, 32]⟩ = [120, 32, 61, 32] := by decide
theorem bts_y : bts ⟨#[44, 32, 121, 32, 61, 32]⟩ = [44, 32, 121, 32, 61, 32] := by decide
theorem bts_n : bts ⟨#[10]⟩ = [10] := by decide

def HeadPost (b : Nat) (s : ByteArray) (r : Rv) (w : World) (e : Ending) (w' : World) : Prop :=
  (∃ W H k g, headS s = .inl (W, H, k) ∧ e = .returned (.bool true) ∧ RAt b s { r with i := k, wd := (W : Int), hi := (H : Int), cs := .slice (some ⟨g, 0, none⟩) (W * H) (W * H) } w' ∧ w.heap.size ≤ g ∧ Cel w' g (List.replicate (W * H) 0) ∧ Rd b w w' ∧ k ≤ s.size ∧ W ≤ 100 ∧ H ≤ 100) ∨
  (∃ a f : Nat, headS s = .inr (a, f) ∧ e = .returned (.bool false) ∧ RAt b s { r with i := a, fl := f } w' ∧ Rd b w w')

theorem Below.toRd {b : Nat} {w w' : World} (h : Below w.heap.size w w') : Rd b w w' := ⟨h.os, h.tape, h.output, h.size, fun k hk _ => h.block k hk⟩

set_option maxHeartbeats 1600000 in
theorem pheader (b : Nat) (s : ByteArray) (r : Rv) (w : World) (h : RAt b s r w) (hi : r.i = 0) (hs : s.size ≤ 40000) :
    Calls Tryd.prog 86 #[.pointer (some ⟨b, 0, none⟩)] w (HeadPost b s r w) := by
  have H := hide' h
  have HI := hide' hi
  clear h hi
  go_enter Tryd.func86, Tryd.ntmps86
  go_wp2_with fail
  refine (pside b s _ r _ H.out (by rw [HI.out]; omega) hs (by decide) (by decide)).mono ?_
  rw [bts_x]
  rintro e w1 (⟨W, i1, h1, rfl, a1, r1, l1, hW⟩ | ⟨a, f, m, h1, rfl, a1, r1⟩)
  · have A1 := hide' a1
    have R1 := hide' r1
    have H1 := hide' h1
    clear a1 r1 h1
    go_wp2_with fail
    refine (pside b s _ _ _ A1.out l1 hs (by decide) (by decide)).mono ?_
    rw [bts_y]
    rintro e w2 (⟨Hh, i2, h2, rfl, a2, r2, l2, hH⟩ | ⟨a, f, m, h2, rfl, a2, r2⟩)
    · have A2 := hide' a2
      have R2 := hide' r2
      have H2 := hide' h2
      clear a2 r2 h2
      go_wp2_with fail
      refine (pexpect b s _ _ _ A2.out l2 hs (by decide) (by decide)).mono ?_
      rw [bts_n]
      rintro e w3 (⟨k, h3, rfl, a3, r3, l3⟩ | ⟨k, h3, rfl, a3, r3⟩)
      · have A3 := hide' a3
        have R3 := hide' r3
        have H3 := hide' h3
        clear a3 r3 h3
        go_wp2_with fail
        refine (pblank W Hh _ hW hH).mono ?_
        rintro e w4 ⟨g, rfl, hg, C, b4⟩
        have A4 := hide' (A3.out.below b4)
        obtain ⟨c0, c1, c2, c3, c4, c5, c6, c7, c8, c9, f1, f2, f3, f4, f5, f6, f7, f8, f9⟩ := A4.out.ten
        have B4 := hide' b4
        have CC := hide' C
        have hb : b < w3.heap.size := A3.out.lt
        have z1 := R1.out.size
        have z2 := R2.out.size
        have z3 := R3.out.size
        clear b4 C
        go_wp2
        go_ret
        left
        refine ⟨W, Hh, k, g, ?_, rfl, ((A4.out.set_wd (W : Int)).set_hi (Hh : Int)).set_cs _, by omega, ?_, ((((R1.out.trans R2.out).trans R3.out).trans (Below.toRd B4.out)).set _ _ |>.set _ _).set _ _, l3, hW, hH⟩
        · unfold headS
          have e1 : sideS s [120, 32, 61, 32] 0 = .inl (W, i1) := by rw [← HI.out]; exact H1.out
          have e2 : sideS s [44, 32, 121, 32, 61, 32] i1 = .inl (Hh, i2) := H2.out
          have e3 : wordF s [10] i2 = .inl k := H3.out
          rw [e1]; simp only []; rw [e2]; simp only []; rw [e3]
        · exact ((CC.out.rd ((Rd.refl b _).set 3 _) (by omega)).rd ((Rd.refl b _).set 4 _) (by omega)).rd ((Rd.refl b _).set 5 _) (by omega)
      · have A3 := hide' a3
        have R3 := hide' r3
        have H3 := hide' h3
        clear a3 r3 h3
        go_wp2
        go_ret
        right
        refine ⟨k, 2, ?_, rfl, A3.out, (R1.out.trans R2.out).trans R3.out⟩
        unfold headS
        have e1 : sideS s [120, 32, 61, 32] 0 = .inl (W, i1) := by rw [← HI.out]; exact H1.out
        have e2 : sideS s [44, 32, 121, 32, 61, 32] i1 = .inl (Hh, i2) := H2.out
        have e3 : wordF s [10] i2 = .inr k := H3.out
        rw [e1]; simp only []; rw [e2]; simp only []; rw [e3]
    · have A2 := hide' a2
      have R2 := hide' r2
      have H2 := hide' h2
      clear a2 r2 h2
      go_wp2
      go_ret
      right
      refine ⟨a, f, ?_, rfl, A2.out, R1.out.trans R2.out⟩
      unfold headS
      have e1 : sideS s [120, 32, 61, 32] 0 = .inl (W, i1) := by rw [← HI.out]; exact H1.out
      have e2 : sideS s [44, 32, 121, 32, 61, 32] i1 = .inr (a, f) := H2.out
      rw [e1]; simp only []; rw [e2]
  · have A1 := hide' a1
    have R1 := hide' r1
    have H1 := hide' h1
    clear a1 r1 h1
    go_wp2
    go_ret
    right
    refine ⟨a, f, ?_, rfl, A1.out, R1.out⟩
    unfold headS
    have e1 : sideS s [120, 32, 61, 32] 0 = .inr (a, f) := by rw [← HI.out]; exact H1.out
    rw [e1]

def CountPost (b : Nat) (s : ByteArray) (r : Rv) (w : World) (e : Ending) (w' : World) : Prop :=
  (tagBad s r.i = false ∧ e = .returned (.bool true) ∧ RAt b s { r with i := tagK s r.i, bg := (r.i : Int), tm := (tagN s r.i : Int) } w' ∧ Rd b w w' ∧ tagK s r.i ≤ s.size) ∨
  (tagBad s r.i = true ∧ e = .returned (.bool false) ∧ (∃ t, RAt b s { r with i := r.i, fl := 2, bg := (r.i : Int), tm := t } w') ∧ Rd b w w')

set_option maxHeartbeats 1600000 in
theorem pcount (b : Nat) (s : ByteArray) (r : Rv) (w : World) (h : RAt b s r w) (hi : r.i ≤ s.size) (hs : s.size ≤ 40000) :
    Calls Tryd.prog 88 #[.pointer (some ⟨b, 0, none⟩)] w (CountPost b s r w) := by
  have H := hide' h
  obtain ⟨c0, c1, c2, c3, c4, c5, c6, c7, c8, c9, f1, f2, f3, f4, f5, f6, f7, f8, f9⟩ := h.ten
  have A0 := hide' ((h.set_bg (r.i : Int)).set_tm 1)
  clear h
  go_enter Tryd.func88, Tryd.ntmps88
  go_wp2_with fail
  cases hd : inR s r.i 48 57 with
  | false =>
    have D := hide' hd
    refine (pisDigit' b s { r with bg := (r.i : Int), tm := 1 } _ false hd A0.out hi).mono ?_
    rintro e w1 ⟨rfl, n, rfl⟩
    clear hd
    go_wp2
    go_ret
    left
    have hk : tagK s r.i = r.i := by unfold tagK dAt; rw [D.out]; simp
    have hn : tagN s r.i = 1 := by unfold tagN dAt; rw [D.out]; simp
    refine ⟨by unfold tagBad dAt; rw [D.out]; simp, rfl, ?_, (((Rd.refl _ _).set _ _).set _ _).drewN _, by rw [hk]; exact hi⟩
    rw [hk, hn]
    exact A0.out.drewN n
  | true =>
    have D := hide' hd
    refine (pisDigit' b s { r with bg := (r.i : Int), tm := 1 } _ true hd A0.out hi).mono ?_
    rintro e w1 ⟨rfl, n, rfl⟩
    clear hd
    go_wp2_with fail
    refine (pnumber b s _ _ (A0.out.drewN n) hi hs).mono ?_
    rintro e w2 (⟨hn, rfl, a2, r2, hj2⟩ | ⟨hn, rfl, a2, r2⟩)
    · have A2 := hide' a2
      have R2 := hide' r2
      have HN := hide' (show numSix s r.i = true from hn)
      have HJ := hide' (show (num s r.i).2 ≤ s.size from hj2)
      have g8 := a2.ten.c8
      have g9 := a2.ten.c9
      have gf9 := a2.ten.f9
      dsimp only at g8 g9
      clear a2 r2 hn hj2 c0 c1 c2 c3 c4 c5 c6 c7 c8 c9 f1 f2 f3 f4 f5 f6 f7 f8 f9
      by_cases q : (num s r.i).1 < 2
      · have n1 : ((num s r.i).1 : Int) < 2 := by omega
        go_wp2_with fail
        refine (pfail b s _ r.i _ _ _ rfl A2.out).mono ?_
        rintro e w3 ⟨rfl, a3, r3⟩
        have A3 := hide' a3
        have R3 := hide' r3
        have k9 := a3.ten.c9
        have kf9 := a3.ten.f9
        clear a3 r3
        go_wp2
        go_ret
        right
        refine ⟨by unfold tagBad dAt; rw [D.out]; simp; omega, rfl, ⟨_, A3.out.set_tm _⟩, ((((((Rd.refl _ _).set _ _).set _ _).drewN n).trans R2.out).trans R3.out).set _ _⟩
      · have n1 : ¬ ((num s r.i).1 : Int) < 2 := by omega
        go_wp2
        go_ret
        left
        have hk : tagK s r.i = (num s r.i).2 := by unfold tagK dAt; rw [D.out]; simp
        have hn : tagN s r.i = (num s r.i).1 := by unfold tagN dAt; rw [D.out]; simp
        refine ⟨by unfold tagBad dAt; rw [D.out, HN.out]; simp; omega, rfl, ?_, (((((Rd.refl _ _).set _ _).set _ _).drewN n).trans R2.out).set _ _, by rw [hk]; exact HJ.out⟩
        rw [hk, hn]
        exact A2.out.set_tm _
    · have A2 := hide' a2
      have R2 := hide' r2
      have HN := hide' (show numSix s r.i = false from hn)
      have g9 := a2.ten.c9
      have gf9 := a2.ten.f9
      dsimp only at g9
      clear a2 r2 hn c0 c1 c2 c3 c4 c5 c6 c7 c8 c9 f1 f2 f3 f4 f5 f6 f7 f8 f9
      go_wp2
      go_ret
      right
      refine ⟨by unfold tagBad dAt; rw [D.out, HN.out]; simp, rfl, ⟨0, A2.out.set_tm 0⟩, (((((Rd.refl _ _).set _ _).set _ _).drewN n).trans R2.out).set _ _⟩
end Go.Proofs.YtjngjnkecnnmeaaDoor

namespace Go.Proofs.YtjngjnkecnnmeaaDoor
open Go.RowKit
set_option linter.unusedVariables false

theorem prows (b : Nat) (s : ByteArray) (r : Rv) (w : World) (j y n H : Nat) (h : RAt b s r w) (hi : r.i < s.size) (hs : s.size ≤ 40000) (hj : r.bg = (j : Int)) (hy : r.dn = (y : Int)) (hn : r.tm = (n : Int)) (hH : r.hi = (H : Int)) (ly : y ≤ 100) (ln : n < 1000000) :
    Calls Tryd.prog 91 #[.pointer (some ⟨b, 0, none⟩)] w fun e w' => (H ≤ y + n ∧ e = .returned (.bool false) ∧ RAt b s { r with i := j, fl := 1 } w' ∧ Rd b w w') ∨ (¬ H ≤ y + n ∧ e = .returned (.bool true) ∧ RAt b s { r with i := r.i + 1, rt := 0, dn := ((y + n : Nat) : Int) } w' ∧ Rd b w w') := by
  have A := hide' h
  obtain ⟨c0, c1, c2, c3, c4, c5, c6, c7, c8, c9, f1, f2, f3, f4, f5, f6, f7, f8, f9⟩ := h.ten
  rw [hH] at c4
  rw [hy] at c7
  rw [hj] at c8
  rw [hn] at c9
  clear h hj hy hn hH
  by_cases q : H ≤ y + n
  · have n1 : (H : Int) ≤ (y : Int) + (n : Int) := by omega
    go_enter Tryd.func91, Tryd.ntmps91
    go_wp2
    go_quiet (fail)
    go_wp2_with fail
    refine (pfail b s _ j _ _ _ rfl (A.out.drewN _)).mono ?_
    rintro e w1 ⟨rfl, a1, r1⟩
    have A1 := hide' a1
    have R1 := hide' r1
    clear a1 r1
    go_wp2
    go_ret
    exact Or.inl ⟨q, rfl, A1.out, ((Rd.refl _ _).drewN _).trans R1.out⟩
  · have n1 : ¬ (H : Int) ≤ (y : Int) + (n : Int) := by omega
    go_enter Tryd.func91, Tryd.ntmps91
    go_wp2
    go_quiet (fail)
    go_wp2
    go_region
    go_wp2
    go_ret
    right
    refine ⟨q, rfl, ?_, (((((Rd.refl _ _).drewN _).set _ _).drewN _).set _ _).set _ _⟩
    rw [show (y : Int) + (n : Int) = ((y + n : Nat) : Int) by omega, show (r.i : Int) + 1 = ((r.i + 1 : Nat) : Int) by omega]
    exact ((((A.out.drewN _).set_rt 0).drewN _).set_dn ((y + n : Nat) : Int)).set_i (r.i + 1)

theorem pend (b : Nat) (s : ByteArray) (r : Rv) (w : World) (j : Nat) (h : RAt b s r w) (hi : r.i < s.size) (hs : s.size ≤ 40000) (hj : r.bg = (j : Int)) :
    Calls Tryd.prog 92 #[.pointer (some ⟨b, 0, none⟩)] w fun e w' => (r.i ≠ j ∧ e = .returned (.bool false) ∧ RAt b s { r with i := r.i, fl := 2 } w' ∧ Rd b w w') ∨ (r.i = j ∧ e = .returned (.bool true) ∧ RAt b s { r with i := r.i + 1 } w' ∧ Rd b w w') := by
  have A := hide' h
  obtain ⟨c0, c1, c2, c3, c4, c5, c6, c7, c8, c9, f1, f2, f3, f4, f5, f6, f7, f8, f9⟩ := h.ten
  rw [hj] at c8
  clear h hj
  by_cases q : r.i = j
  · have n1 : ((r.i : Int) == (j : Int)) = true := by simp; omega
    have n2 : ((r.i : Int) != (j : Int)) = false := by simp; omega
    have Q := hide' q
    clear q
    go_enter Tryd.func92, Tryd.ntmps92
    go_wp2
    go_quiet (fail)
    go_wp2
    go_ret
    right
    refine ⟨Q.out, rfl, ?_, ((Rd.refl _ _).drewN _).set _ _⟩
    rw [show (r.i : Int) + 1 = ((r.i + 1 : Nat) : Int) by omega]
    exact (A.out.drewN _).set_i (r.i + 1)
  · have n1 : ((r.i : Int) == (j : Int)) = false := by simp; omega
    have n2 : ((r.i : Int) != (j : Int)) = true := by simp; omega
    have Q := hide' q
    clear q
    go_enter Tryd.func92, Tryd.ntmps92
    go_wp2
    go_quiet (fail)
    go_wp2_with fail
    refine (pfail b s _ r.i _ _ _ rfl (A.out.drewN _)).mono ?_
    rintro e w1 ⟨rfl, a1, r1⟩
    have A1 := hide' a1
    have R1 := hide' r1
    clear a1 r1
    go_wp2
    go_ret
    exact Or.inl ⟨Q.out, rfl, A1.out, ((Rd.refl _ _).drewN _).trans R1.out⟩

set_option maxHeartbeats 1600000 in
theorem pcells (b g : Nat) (s : ByteArray) (r : Rv) (xs : List Int) (w : World) (B j x y n W H : Nat) (c : Int) (h : RAt b s r w) (hC : Cel w g xs) (hi : r.i < s.size) (hs : s.size ≤ 40000) (hj : r.bg = (j : Int)) (hx : r.rt = (x : Int)) (hy : r.dn = (y : Int)) (hn : r.tm = (n : Int)) (hW : r.wd = (W : Int)) (hH : r.hi = (H : Int))
    (hc : r.cs = .slice (some ⟨g, 0, none⟩) (W * H) (W * H)) (hl : xs.length = W * H) (hgb : g ≠ b) (hBb : B ≤ b) (hBg : B ≤ g) (lx : x ≤ W) (ly : y ≤ H) (lW : W ≤ 100) (lH : H ≤ 100) (ln : n < 1000000) :
    Calls Tryd.prog 90 #[.pointer (some ⟨b, 0, none⟩), .int .i64 c] w fun e w' => ((H ≤ y ∨ W < x + n) ∧ e = .returned (.bool false) ∧ RAt b s { r with i := j, fl := 1 } w' ∧ Rd b w w') ∨ (¬ (H ≤ y ∨ W < x + n) ∧ e = .returned (.bool true) ∧ RAt b s { r with i := r.i + 1, rt := ((x + n : Nat) : Int) } w' ∧ Cel w' g (setRun xs (y * W + x) n c) ∧ Below B w w') := by
  have A := hide' h
  have C := hide' hC
  obtain ⟨c0, c1, c2, c3, c4, c5, c6, c7, c8, c9, f1, f2, f3, f4, f5, f6, f7, f8, f9⟩ := h.ten
  rw [hW] at c3
  rw [hH] at c4
  rw [hc] at c5
  rw [hx] at c6
  rw [hy] at c7
  rw [hj] at c8
  rw [hn] at c9
  have RX := hide' hx
  have RC := hide' hc
  have RW := hide' hW
  have RY := hide' hy
  have HL := hide' hl
  clear h hC hj hx hy hn hW hH hc hl
  by_cases q : y = H
  · have n1 : ((y : Int) == (H : Int)) = true := by simp; omega
    have Q := hide' q
    clear q
    go_enter Tryd.func90, Tryd.ntmps90
    go_wp2
    go_quiet (fail)
    go_wp2_with fail
    refine (pfail b s _ j _ _ _ rfl (A.out.drewN _)).mono ?_
    rintro e w1 ⟨rfl, a1, r1⟩
    have A1 := hide' a1
    have R1 := hide' r1
    clear a1 r1
    go_wp2
    go_ret
    exact Or.inl ⟨Or.inl (by have := Q.out; omega), rfl, A1.out, ((Rd.refl _ _).drewN _).trans R1.out⟩
  · have n1 : ((y : Int) == (H : Int)) = false := by simp; omega
    by_cases q2 : W < x + n
    · have n2 : (W : Int) < (x : Int) + (n : Int) := by omega
      go_enter Tryd.func90, Tryd.ntmps90
      go_wp2
      go_quiet (fail)
      go_wp2_with fail
      refine (pfail b s _ j _ _ _ rfl (A.out.drewN _)).mono ?_
      rintro e w1 ⟨rfl, a1, r1⟩
      have A1 := hide' a1
      have R1 := hide' r1
      clear a1 r1
      go_wp2
      go_ret
      exact Or.inl ⟨Or.inr q2, rfl, A1.out, ((Rd.refl _ _).drewN _).trans R1.out⟩
    · have n2 : ¬ (W : Int) < (x : Int) + (n : Int) := by omega
      go_enter Tryd.func90, Tryd.ntmps90
      go_wp2
      go_quiet (fail)
      go_wp2
      obtain ⟨P, hP⟩ : ∃ P, y * W = P := ⟨_, rfl⟩
      obtain ⟨N, hN⟩ : ∃ N, W * H = N := ⟨_, rfl⟩
      have hPN : P + W ≤ N := by
        rw [← hP, ← hN, Nat.mul_comm W H]
        have := Nat.mul_le_mul_right W (show y + 1 ≤ H by omega)
        rw [Nat.add_mul] at this
        omega
      have hN4 : N ≤ 10000 := by rw [← hN]; exact Nat.mul_le_mul lW lH
      have hPi : (y : Int) * (W : Int) = (P : Int) := by rw [← hP]; simp
      have HL' := hide' (show xs.length = N by rw [← hN]; exact HL.out)
      rw [hN] at c5
      have HP := hide' hP
      have HN := hide' hN
      clear hP hN
      go_loopw [42] (fun kv wr => ∃ k R : Nat, kv = .int .i64 (k : Int) ∧ k ≤ n ∧ R = x + k ∧ RAt b s { r with rt := (R : Int) } wr ∧ Cel wr g (setRun xs (P + x) k c) ∧ Below B w wr) (fun kv _ => n - (intOf kv).toNat)
      case atStart => exact ⟨0, x, rfl, by omega, rfl, by rw [← RX.out]; exact A.out.drewN _, C.out.block (Nat.le_refl _) rfl, ⟨rfl, rfl, rfl, Nat.le_refl _, fun _ _ => rfl⟩⟩
      case round =>
        obtain ⟨k, R, rfl, hk, hR, a1, C1, b1⟩ := hrel
        have HRk := hide' hR
        have lR : x ≤ R := by omega
        have lR' : k < n → R < W := by omega
        clear hR
        have A1 := hide' a1
        have CC := hide' C1
        have BB := hide' b1
        have d1 := a1.ten.c1
        have d3 := a1.ten.c3
        have d5 := a1.ten.c5
        have d6 := a1.ten.c6
        have d7 := a1.ten.c7
        have df1 := a1.ten.f1
        have df6 := a1.ten.f6
        dsimp only at d1 d3 d5 d6 d7
        clear a1 C1 b1
        have e5 := RC.out
        rw [HN.out] at e5
        rw [RW.out] at d3
        rw [e5] at d5
        rw [RY.out] at d7
        clear e5
        by_cases d : k < n
        · have n3 : (k : Int) < (n : Int) := by omega
          have hpl : P + R < (setRun xs (P + x) k c).length := by rw [setRun_length, HL'.out]; have := lR' d; omega
          have hv := CC.out.cells (P + R) hpl
          have hf := CC.out.fz (P + R)
          have HPL := hide' hpl
          have hlt : P + R < N := by have := lR' d; omega
          have hlt2 : R < 100 := by have := lR' d; omega
          clear lR'
          clear hpl c0 c1 c2 c3 c4 c5 c6 c7 c8 c9 f1 f2 f3 f4 f5 f6 f7 f8 f9
          go_wp2
          go_region
          have A2 := hide' ((A1.out.setOther (p := ⟨g, P + R, none⟩) hgb.symm (.int .i64 c)).block (w' := (wr.setCell ⟨g, P + R, none⟩ (.int .i64 c)).drew) rfl)
          have e6 := A2.out.ten.c6
          have ef6 := A2.out.ten.f6
          dsimp only at e6
          clear d1 d3 d5 d6 d7 df1 df6 hv hf
          go_wp2
          refine ⟨⟨k + 1, R + 1, by go_num, by omega, by rw [HRk.out]; omega, by rw [show (R : Int) + 1 = ((R + 1 : Nat) : Int) by omega]; exact A2.out.set_rt ((R + 1 : Nat) : Int), ?_, ?_⟩, by simp [intOf]; omega⟩
          · have c2 := CC.out.set (P + R) c HPL.out
            have c3 := c2.block (w' := ((wr.setCell ⟨g, P + R, none⟩ (.int .i64 c)).drew).setCell ⟨b, 6, none⟩ (.int .i64 ((R : Int) + 1))) (by simp [World.setCell, World.drew]) (Below.heap_setCell _ _ _ _ hgb)
            rw [setRun, show P + x + k = P + R by rw [HRk.out]; omega]
            exact c3
          · exact ((BB.out.setCell (p := ⟨g, P + R, none⟩) hBg _).setCell (p := ⟨b, 6, none⟩) hBb _).trans ⟨rfl, rfl, rfl, Nat.le_refl _, fun _ _ => rfl⟩
        · have n3 : ¬ (k : Int) < (n : Int) := by omega
          have K := hide' (show k = n by omega)
          clear c0 c1 c2 c3 c4 c5 c6 c7 c8 c9 f1 f2 f3 f4 f5 f6 f7 f8 f9
          go_wp2
          go_ret
          right
          refine ⟨by omega, rfl, ?_, ?_, BB.out.setCell hBb _⟩
          · have := HRk.out
            rw [K.out] at this
            rw [show (r.i : Int) + 1 = ((r.i + 1 : Nat) : Int) by omega, show (x : Int) + (n : Int) = (R : Int) by omega]
            exact A1.out.set_i (r.i + 1)
          · have c3 := CC.out.block (w' := wr.setCell ⟨b, 1, none⟩ (.int .i64 ((r.i : Int) + 1))) (by simp [World.setCell]) (Below.heap_setCell _ _ _ _ hgb)
            rw [HP.out, ← K.out]
            exact c3
end Go.Proofs.YtjngjnkecnnmeaaDoor

