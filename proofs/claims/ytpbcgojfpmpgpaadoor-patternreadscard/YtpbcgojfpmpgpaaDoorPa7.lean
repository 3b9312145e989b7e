/-
  The reader of package pattern: header, count, rows, end.
-/
import Derived.Test.YtpbcgojfpmpgpaaDoorPa6
namespace Go.Proofs.YtpbcgojfpmpgpaaDoor
open Go.RowKit
set_option linter.unusedVariables false

theorem bts_x : bts ⟨#[120, 32, 61, 32]⟩ = [120, 32, 61, 32] := by decide
theorem bts_y : bts ⟨#[44, 32, 121, 32, 61, 32]⟩ = [44, 32, 121, 32, 61, 32] := by decide
theorem bts_n : bts ⟨#[10]⟩ = [10] := by decide

def HeadPost (b : Nat) (s : ByteArray) (r : Rv) (w : World) (e : Ending) (w' : World) : Prop :=
  (∃ W H k g, headS s = .inl (W, H, k) ∧ e = .returned (.bool true) ∧ RAt b s { r with i := k, wd := (W : Int), hi := (H : Int), cs := .slice (some ⟨g, 0, none⟩) (W * H) (W * H) } w' ∧ w.heap.size ≤ g ∧ Cel w' g (List.replicate (W * H) 0) ∧ Rd b w w' ∧ k ≤ s.size ∧ W ≤ 100 ∧ H ≤ 100) ∨
  (∃ a f : Nat, headS s = .inr (a, f) ∧ e = .returned (.bool false) ∧ RAt b s { r with i := a, fl := f } w' ∧ Rd b w w')

theorem Below.toRd {b : Nat} {w w' : World} (h : Below w.heap.size w w') : Rd b w w' := ⟨h.os, h.tape, h.output, h.size, fun k hk _ => h.block k hk⟩

set_option maxHeartbeats 1600000 in
theorem pheader (b : Nat) (s : ByteArray) (r : Rv) (w : World) (h : RAt b s r w) (hi : r.i = 0) (hs : s.size ≤ 40000) :
    Calls Tryd.prog 69 #[.pointer (some ⟨b, 0, none⟩)] w (HeadPost b s r w) := by
  have H := hide' h
  have HI := hide' hi
  clear h hi
  go_enter Tryd.func69, Tryd.ntmps69
  go_wp2_with fail
  refine (pside b s _ r _ H.out (by rw [HI.out]; omega) hs (by decide) (by decide)).mono ?_
  rw [bts_x]
  rintro e w1 (⟨W, i1, h1, rfl, a1, r1, l1, hW⟩ | ⟨a, f, m, h1, rfl, a1, r1⟩)
  · have A1 := hide' a1
    have R1 := hide' r1
    have H1 := hide' h1
    clear a1 r1 h1
    go_wp2_with fail
    refine (pside b s _ _ _ A1.out l1 hs (by decide) (by decide)).mono ?_
    rw [bts_y]
    rintro e w2 (⟨Hh, i2, h2, rfl, a2, r2, l2, hH⟩ | ⟨a, f, m, h2, rfl, a2, r2⟩)
    · have A2 := hide' a2
      have R2 := hide' r2
      have H2 := hide' h2
      clear a2 r2 h2
      go_wp2_with fail
      refine (pexpect b s _ _ _ A2.out l2 hs (by decide) (by decide)).mono ?_
      rw [bts_n]
      rintro e w3 (⟨k, h3, rfl, a3, r3, l3⟩ | ⟨k, h3, rfl, a3, r3⟩)
      · have A3 := hide' a3
        have R3 := hide' r3
        have H3 := hide' h3
        clear a3 r3 h3
        go_wp2_with fail
        refine (pblank W Hh _ hW hH).mono ?_
        rintro e w4 ⟨g, rfl, hg, C, b4⟩
        have A4 := hide' (A3.out.below b4)
        obtain ⟨c0, c1, c2, c3, c4, c5, c6, c7, c8, c9, f1, f2, f3, f4, f5, f6, f7, f8, f9⟩ := A4.out.ten
        have B4 := hide' b4
        have CC := hide' C
        have hb : b < w3.heap.size := A3.out.lt
        have z1 := R1.out.size
        have z2 := R2.out.size
        have z3 := R3.out.size
        clear b4 C
        go_wp2
        go_ret
        left
        refine ⟨W, Hh, k, g, ?_, rfl, ((A4.out.set_wd (W : Int)).set_hi (Hh : Int)).set_cs _, by omega, ?_, ((((R1.out.trans R2.out).trans R3.out).trans (Below.toRd B4.out)).set _ _ |>.set _ _).set _ _, l3, hW, hH⟩
        · unfold headS
          have e1 : sideS s [120, 32, 61, 32] 0 = .inl (W, i1) := by rw [← HI.out]; exact H1.out
          have e2 : sideS s [44, 32, 121, 32, 61, 32] i1 = .inl (Hh, i2) := H2.out
          have e3 : wordF s [10] i2 = .inl k := H3.out
          rw [e1]; simp only []; rw [e2]; simp only []; rw [e3]
        · exact ((CC.out.rd ((Rd.refl b _).set 3 _) (by omega)).rd ((Rd.refl b _).set 4 _) (by omega)).rd ((Rd.refl b _).set 5 _) (by omega)
      · have A3 := hide' a3
        have R3 := hide' r3
        have H3 := hide' h3
        clear a3 r3 h3
        go_wp2
        go_ret
        right
        refine ⟨k, 2, ?_, rfl, A3.out, (R1.out.trans R2.out).trans R3.out⟩
        unfold headS
        have e1 : sideS s [120, 32, 61, 32] 0 = .inl (W, i1) := by rw [← HI.out]; exact H1.out
        have e2 : sideS s [44, 32, 121, 32, 61, 32] i1 = .inl (Hh, i2) := H2.out
        have e3 : wordF s [10] i2 = .inr k := H3.out
        rw [e1]; simp only []; rw [e2]; simp only []; rw [e3]
    · have A2 := hide' a2
      have R2 := hide' r2
      have H2 := hide' h2
      clear a2 r2 h2
      go_wp2
      go_ret
      right
      refine ⟨a, f, ?_, rfl, A2.out, R1.out.trans R2.out⟩
      unfold headS
      have e1 : sideS s [120, 32, 61, 32] 0 = .inl (W, i1) := by rw [← HI.out]; exact H1.out
      have e2 : sideS s [44, 32, 121, 32, 61, 32] i1 = .inr (a, f) := H2.out
      rw [e1]; simp only []; rw [e2]
  · have A1 := hide' a1
    have R1 := hide' r1
    have H1 := hide' h1
    clear a1 r1 h1
    go_wp2
    go_ret
    right
    refine ⟨a, f, ?_, rfl, A1.out, R1.out⟩
    unfold headS
    have e1 : sideS s [120, 32, 61, 32] 0 = .inr (a, f) := by rw [← HI.out]; exact H1.out
    rw [e1]

def CountPost (b : Nat) (s : ByteArray) (r : Rv) (w : World) (e : Ending) (w' : World) : Prop :=
  (tagBad s r.i = false ∧ e = .returned (.bool true) ∧ RAt b s { r with i := tagK s r.i, bg := (r.i : Int), tm := (tagN s r.i : Int) } w' ∧ Rd b w w' ∧ tagK s r.i ≤ s.size) ∨
  (tagBad s r.i = true ∧ e = .returned (.bool false) ∧ (∃ t, RAt b s { r with i := r.i, fl := 2, bg := (r.i : Int), tm := t } w') ∧ Rd b w w')

set_option maxHeartbeats 1600000 in
theorem pcount (b : Nat) (s : ByteArray) (r : Rv) (w : World) (h : RAt b s r w) (hi : r.i ≤ s.size) (hs : s.size ≤ 40000) :
    Calls Tryd.prog 71 #[.pointer (some ⟨b, 0, none⟩)] w (CountPost b s r w) := by
  have H := hide' h
  obtain ⟨c0, c1, c2, c3, c4, c5, c6, c7, c8, c9, f1, f2, f3, f4, f5, f6, f7, f8, f9⟩ := h.ten
  have A0 := hide' ((h.set_bg (r.i : Int)).set_tm 1)
  clear h
  go_enter Tryd.func71, Tryd.ntmps71
  go_wp2_with fail
  cases hd : inR s r.i 48 57 with
  | false =>
    have D := hide' hd
    refine (pisDigit' b s { r with bg := (r.i : Int), tm := 1 } _ false hd A0.out hi).mono ?_
    rintro e w1 ⟨rfl, n, rfl⟩
    clear hd
    go_wp2
    go_ret
    left
    have hk : tagK s r.i = r.i := by unfold tagK dAt; rw [D.out]; simp
    have hn : tagN s r.i = 1 := by unfold tagN dAt; rw [D.out]; simp
    refine ⟨by unfold tagBad dAt; rw [D.out]; simp, rfl, ?_, (((Rd.refl _ _).set _ _).set _ _).drewN _, by rw [hk]; exact hi⟩
    rw [hk, hn]
    exact A0.out.drewN n
  | true =>
    have D := hide' hd
    refine (pisDigit' b s { r with bg := (r.i : Int), tm := 1 } _ true hd A0.out hi).mono ?_
    rintro e w1 ⟨rfl, n, rfl⟩
    clear hd
    go_wp2_with fail
    refine (pnumber b s _ _ (A0.out.drewN n) hi hs).mono ?_
    rintro e w2 (⟨hn, rfl, a2, r2, hj2⟩ | ⟨hn, rfl, a2, r2⟩)
    · have A2 := hide' a2
      have R2 := hide' r2
      have HN := hide' (show numSix s r.i = true from hn)
      have HJ := hide' (show (num s r.i).2 ≤ s.size from hj2)
      have g8 := a2.ten.c8
      have g9 := a2.ten.c9
      have gf9 := a2.ten.f9
      dsimp only at g8 g9
      clear a2 r2 hn hj2 c0 c1 c2 c3 c4 c5 c6 c7 c8 c9 f1 f2 f3 f4 f5 f6 f7 f8 f9
      by_cases q : (num s r.i).1 < 2
      · have n1 : ((num s r.i).1 : Int) < 2 := by omega
        go_wp2_with fail
        refine (pfail b s _ r.i _ _ _ rfl A2.out).mono ?_
        rintro e w3 ⟨rfl, a3, r3⟩
        have A3 := hide' a3
        have R3 := hide' r3
        have k9 := a3.ten.c9
        have kf9 := a3.ten.f9
        clear a3 r3
        go_wp2
        go_ret
        right
        refine ⟨by unfold tagBad dAt; rw [D.out]; simp; omega, rfl, ⟨_, A3.out.set_tm _⟩, ((((((Rd.refl _ _).set _ _).set _ _).drewN n).trans R2.out).trans R3.out).set _ _⟩
      · have n1 : ¬ ((num s r.i).1 : Int) < 2 := by omega
        go_wp2
        go_ret
        left
        have hk : tagK s r.i = (num s r.i).2 := by unfold tagK dAt; rw [D.out]; simp
        have hn : tagN s r.i = (num s r.i).1 := by unfold tagN dAt; rw [D.out]; simp
        refine ⟨by unfold tagBad dAt; rw [D.out, HN.out]; simp; omega, rfl, ?_, (((((Rd.refl _ _).set _ _).set _ _).drewN n).trans R2.out).set _ _, by rw [hk]; exact HJ.out⟩
        rw [hk, hn]
        exact A2.out.set_tm _
    · have A2 := hide' a2
      have R2 := hide' r2
      have HN := hide' (show numSix s r.i = false from hn)
      have g9 := a2.ten.c9
      have gf9 := a2.ten.f9
      dsimp only at g9
      clear a2 r2 hn c0 c1 c2 c3 c4 c5 c6 c7 c8 c9 f1 f2 f3 f4 f5 f6 f7 f8 f9
      go_wp2
      go_ret
      right
      refine ⟨by unfold tagBad dAt; rw [D.out, HN.out]; simp, rfl, ⟨0, A2.out.set_tm 0⟩, (((((Rd.refl _ _).set _ _).set _ _).drewN n).trans R2.out).set _ _⟩
end Go.Proofs.YtpbcgojfpmpgpaaDoor
