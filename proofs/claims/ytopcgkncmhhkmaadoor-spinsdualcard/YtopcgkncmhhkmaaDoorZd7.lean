/-
  What the last text of this claim leans on, part 7: Ss4, Ss5.
-/
import Derived.Test.YtopcgkncmhhkmaaDoorZd6
namespace Go.Proofs.YtopcgkncmhhkmaaDoor
open Go.RowKit
set_option linter.unusedVariables false
set_option linter.unusedSimpArgs false
/-- What is added by the first i counts. -/
def adP (f c : Nat → Nat) (p i k : Nat) : Nat := f k + if p ≤ k ∧ k < p + i then c (k - p) else 0
theorem adP_zero (f c : Nat → Nat) (p k : Nat) : adP f c p 0 k = f k := by unfold adP; rw [if_neg (by omega)]; rfl
theorem adP_next (f c : Nat → Nat) (p i k : Nat) : adP f c p (i + 1) k = if k = i + p then adP f c p i k + c i else adP f c p i k := by
  unfold adP
  by_cases e : k = i + p
  · rw [if_pos e, if_pos (by omega), if_neg (show ¬ (p ≤ k ∧ k < p + i) by omega), show k - p = i by omega]; rfl
  · rw [if_neg e]
    by_cases q : p ≤ k ∧ k < p + i
    · rw [if_pos q, if_pos (by omega)]
    · rw [if_neg q, if_neg (by omega)]
theorem adP_full {f c : Nat → Nat} {p L k : Nat} (hk : k < L) : adP f c p L k = f k + shR c p k := by
  unfold adP shR
  by_cases q : p ≤ k
  · rw [if_pos q, if_pos ⟨q, by omega⟩]
  · rw [if_neg q, if_neg (fun h => q h.1)]
theorem adP_at (f c : Nat → Nat) (p i : Nat) : adP f c p i (i + p) = f (i + p) := by unfold adP; rw [if_neg (by omega)]; rfl
set_option maxRecDepth 100000 in
set_option maxHeartbeats 3200000 in
theorem add_anyS (g h L p B : Nat) (f c : Nat → Nat) (w : World) (hL : L ≤ 100) (hp : p ≤ 100) (hg : ArV w g L 3 (iQ f)) (hh : ArV w h L 3 (iQ c)) (ne : g ≠ h) (hB : B ≤ g)
    (room : ∀ k, k < L → c k ≠ 0 → k + p < L) (sf : ∀ k, k < L → f k ≤ 1073741824) (sc : ∀ k, k < L → c k ≤ 1073741824) :
    Calls Tryd.prog 26 #[.slice (some ⟨g, 0, none⟩) L L, .slice (some ⟨h, 0, none⟩) L L, .int .i64 (p : Int)] w fun e w' => e = .returned (.tuple #[]) ∧ ArV w' g L 3 (iQ fun k => f k + shR c p k) ∧ (∀ b, b ≠ g → w'.heap[b]? = w.heap[b]?) ∧ Below B w w' := by
  have HG := hide' hg
  have HH := hide' hh
  have NE := hide' ne
  have RM := hide' room
  have SF := hide' sf
  have SC := hide' sc
  have gl := hg.lt
  have hl := hh.lt
  clear hg hh ne room sf sc
  go_enter Tryd.func26, Tryd.ntmps26
  go_wp2
  go_loopw [6, 7, 10] (fun _ _ iv wr => ∃ i : Nat, iv = .int .i64 (i : Int) ∧ i ≤ L ∧ Hid (ArV wr g L 3 (iQ (adP f c p i))) ∧ Hid (∀ b, b ≠ g → wr.heap[b]? = w.heap[b]?) ∧ Hid (Below B w wr)) (fun _ _ iv _ => L - (intOf iv).toNat)
  case atStart => exact ⟨0, rfl, by omega, hide' (HG.out.ext fun k _ => by unfold iQ; rw [adP_zero]), hide' (fun _ _ => rfl), hide' (Below.refl _ _)⟩
  case round =>
    obtain ⟨i, rfl, hi, AR, KP, BW⟩ := hrel
    by_cases d : (i : Int) < (L : Int)
    · have il : i < L := by omega
      have i0 : (0 : Int) ≤ (i : Int) := by omega
      have c1 := (HH.out.keep (KP.out h (Ne.symm NE.out))).cell il
      have hl2 := (HH.out.keep (KP.out h (Ne.symm NE.out))).lt
      have rm := RM.out i il
      have scl := SC.out i il
      have NX := hide' (fun k => adP_next f c p i k)
      have AT := hide' (adP_at f c p i)
      unfold iQ at c1
      obtain ⟨x, hx⟩ : ∃ x, c i = x := ⟨_, rfl⟩
      rw [hx] at c1 rm scl NX
      clear hx
      by_cases x0 : x = 0
      · subst x0
        have N2 := hide' (show ArV wr g L 3 (iQ (adP f c p (i + 1))) from AR.out.ext fun k _ => by unfold iQ; rw [NX.out k]; split <;> rfl)
        clear rm
        go_wp2
        exact ⟨⟨i + 1, by go_num, by omega, N2, KP, BW⟩, by simp [intOf]; omega⟩
      · have j := rm x0
        have xb : ((x : Int) != 0) = true := by simp; omega
        obtain ⟨y, hy⟩ : ∃ y, i + p = y := ⟨_, rfl⟩
        have ey : (i : Int) + (p : Int) = (y : Int) := by omega
        rw [hy] at j NX AT
        have y0 : (0 : Int) ≤ (y : Int) := by omega
        have yl : (y : Int) < (L : Int) := by omega
        have c2 := AR.out.cell j
        have fz := AR.out.frozen y
        have gl2 := AR.out.lt
        have fy := SF.out y j
        unfold iQ at c2
        rw [AT.out] at c2
        have N2 := hide' (show ArV (wr.setCell ⟨g, y, none⟩ (.int .i64 ((f y + x : Nat) : Int))) g L 3 (iQ (adP f c p (i + 1))) from (AR.out.set y _).ext fun k _ => by
          unfold iQ
          rw [NX.out k]
          by_cases e : k = y
          · rw [if_pos e, if_pos e, e, AT.out]
          · rw [if_neg e, if_neg e])
        have K2 := hide' (fun v b (hb : b ≠ g) => show (wr.setCell ⟨g, y, none⟩ v).heap[b]? = w.heap[b]? from (set_other hb).trans (KP.out b hb))
        have B2 := hide' (fun v => show Below B w (wr.setCell ⟨g, y, none⟩ v) from BW.out.setCell (p := ⟨g, y, none⟩) hB v)
        obtain ⟨z, hz⟩ : ∃ z, f y + x = z := ⟨_, rfl⟩
        have ez : ((f y : Nat) : Int) + (x : Int) = (z : Int) := by omega
        rw [hz] at N2
        obtain ⟨u, hu⟩ : ∃ u, f y = u := ⟨_, rfl⟩
        rw [hu] at c2 ez fy
        clear hu hz hy rm x0
        go_wp2
        exact ⟨⟨i + 1, by go_num, by omega, N2, hide' (K2.out _), hide' (B2.out _)⟩, by simp [intOf]; omega⟩
    · obtain rfl : i = L := by omega
      have F := hide' (show ArV wr g i 3 (iQ fun k => f k + shR c p k) from AR.out.ext fun k hk => by unfold iQ; rw [adP_full hk])
      go_wp2
      go_end0
      exact ⟨rfl, F.out, KP.out, BW.out⟩
end Go.Proofs.YtopcgkncmhhkmaaDoor

namespace Go.Proofs.YtopcgkncmhhkmaaDoor
open Go.RowKit
set_option linter.unusedVariables false
set_option linter.unusedSimpArgs false
/-- A net in a box. -/
def NtB (V : World) (b W H : Nat) (rg : Bool) : Prop := V.heap[b]? = some (.cells #[.int .i64 (W : Int), .int .i64 (H : Int), .bool rg] 37 (0, 0))
theorem NtB.cell {V : World} {b W H : Nat} {rg : Bool} (h : NtB V b W H rg) : V.cell? ⟨b, 0, none⟩ = some (.int .i64 (W : Int)) ∧ V.cell? ⟨b, 1, none⟩ = some (.int .i64 (H : Int)) ∧ V.cell? ⟨b, 2, none⟩ = some (.bool rg) := by
  refine ⟨?_, ?_, ?_⟩ <;> rw [cell_of_row V _ _ _ _ _ h] <;> rfl
theorem NtB.below {V V' : World} {b W H B : Nat} {rg : Bool} (h : NtB V b W H rg) (hb : Below B V V') (hl : b < B) : NtB V' b W H rg := (hb.block b hl).trans h
theorem NtB.lt {V : World} {b W H : Nat} {rg : Bool} (h : NtB V b W H rg) : b < V.heap.size := lt_blockQ h
theorem two_le6 {W : Nat} (h : W ≤ 6) : 2 ^ W ≤ 64 := Nat.le_trans (Nat.pow_le_pow_right (by decide) h) (by decide)
theorem pr_le72 {W H : Nat} (rg : Bool) (h1 : 1 ≤ W) (h2 : W ≤ 6) (h3 : 1 ≤ H) (h4 : H ≤ 6) : prG W H rg ≤ 72 := by
  rw [pr_val rg h1 h2 h3 h4]
  have le : 2 * W * H ≤ 72 := Nat.le_trans (Nat.mul_le_mul (Nat.mul_le_mul_left 2 h2) h4) (by decide)
  split
  · exact le
  · omega
/-- A table that is handed back. -/
def TbO (w : World) (M L : Nat) (F : Nat → Nat → Nat) (e : Ending) (w' : World) : Prop := ∃ tb q, e = .returned (.slice (some ⟨tb, 0, none⟩) M M) ∧ TbS w' w.heap.size tb M M L q F ∧ Below w.heap.size w w'
set_option maxRecDepth 100000 in
set_option maxHeartbeats 3200000 in
theorem none_anyS (W H : Nat) (rg : Bool) (w : World) (h1 : 1 ≤ W) (hW : W ≤ 6) (h3 : 1 ≤ H) (hH : H ≤ 6) : Calls Tryd.prog 33 #[.agg #[.int .i64 (W : Int), .int .i64 (H : Int), .bool rg]] w (TbO w (2 ^ W) (prG W H rg + 1) (fun _ _ => 0)) := by
  have PC := hide' (fun V => pairs_any W H rg V h1 hW h3 hH)
  have pl := pr_le72 (W := W) (H := H) rg h1 hW h3 hH
  have ml := two_le6 hW
  have MP := hide' (two_pos W)
  have cp := pow_cast W
  obtain ⟨M, hM⟩ : ∃ M, 2 ^ W = M := ⟨_, rfl⟩
  obtain ⟨P, hP⟩ : ∃ P, prG W H rg = P := ⟨_, rfl⟩
  rw [hP] at pl PC
  rw [hM] at ml cp MP
  rw [hM, hP]
  obtain ⟨L, hL⟩ : ∃ L, P + 1 = L := ⟨_, rfl⟩
  rw [hL]
  have eL : (P : Int) + 1 = (L : Int) := by omega
  have s1 : wrap64 ((2 : Int) ^ W) = (M : Int) := by rw [← cp]; exact wrap_natS (by omega)
  have s2 : wrap64 (1 * (2 : Int) ^ W) = (M : Int) := by rw [Int.one_mul]; exact s1
  have MR := hide' (fun V => mk_rowsQ M (by omega) V)
  have MI := hide' (fun V => mk_intsQ L (by omega) V)
  have l100 : L ≤ 100 := by omega
  have HP := hide' (And.intro hM (And.intro hP hL))
  clear hM hP hL cp
  obtain ⟨w0, hw0⟩ : ∃ w0, w.alloc (.cells #[.int .i64 (W : Int), .int .i64 (H : Int), .bool rg] 37) = w0 := ⟨_, rfl⟩
  have nb : NtB w0 w.heap.size W H rg := by rw [← hw0]; exact heap_alloc_new _ _
  have B0 := hide' (show Below w.heap.size w w0 by rw [← hw0]; exact below_box _ _)
  have z0 := hide' (show w0.heap.size = w.heap.size + 1 by rw [← hw0]; simp)
  obtain ⟨d0, d1, d2⟩ := nb.cell
  have NB := hide' nb
  have mk := MR.out w0
  obtain ⟨w1, hw1⟩ : ∃ w1, w0.alloc (.cells (arrQ M fun _ => .slice none 0 0) 23) = w1 := ⟨_, rfl⟩
  have T1 := hide' (show TbS w1 w.heap.size w0.heap.size M 0 L (fun _ => 0) (fun _ _ => 0) by rw [← hw1]; exact TbS.made w0 M L _ _ _ B0.out.size)
  have B1 := hide' (show Below w0.heap.size w0 w1 by rw [← hw1]; exact below_box _ _)
  have N1 := hide' (NB.out.below B1.out NB.out.lt)
  have B2 := hide' (B0.out.trans (B1.out.mono B0.out.size))
  rw [hw1] at mk
  clear hw1 nb
  obtain ⟨tb, htb⟩ : ∃ tb, w0.heap.size = tb := ⟨_, rfl⟩
  rw [htb] at mk T1
  have L1 := hide' (show w.heap.size < tb by rw [← htb, z0.out]; omega)
  clear htb
  go_enter Tryd.func33, Tryd.ntmps33
  go_wp2
  rw [s1]
  clear s1 s2 mk d0 d1 d2
  go_loopw [4, 11] (fun _ iv wr => ∃ (i : Nat) (q : Nat → Nat), iv = .int .i64 (i : Int) ∧ i ≤ M ∧ Hid (TbS wr w.heap.size tb M i L q (fun _ _ => 0)) ∧ Hid (NtB wr w.heap.size W H rg) ∧ Hid (Below w.heap.size w wr)) (fun _ iv _ => M - (intOf iv).toNat)
  case atStart => exact ⟨0, _, rfl, by omega, T1, N1, B2⟩
  case round =>
    obtain ⟨i, q, rfl, hi, TB, NN, BW⟩ := hrel
    by_cases d : (i : Int) < (M : Int)
    · have il : i < M := by omega
      have i0 : (0 : Int) ≤ (i : Int) := by omega
      obtain ⟨d0, d1, d2⟩ := NN.out.cell
      go_wp2_with fail
      refine (PC.out wr).mono ?_
      rintro o w3 ⟨rfl, b3⟩
      have T3 := hide' (TB.out.below (B := 0) b3)
      have N3 := hide' (NN.out.below b3 NN.out.lt)
      have B3 := hide' (BW.out.trans (b3.mono BW.out.size))
      have mk := MI.out w3
      have ct := T3.out.blk.cell il
      have tl := T3.out.blk.lt
      have T4 := hide' (T3.out.push B3.out.size)
      have N4 := hide' (show NtB ((w3.alloc (.cells (arrQ L (iQ fun _ => 0)) 3)).setCell ⟨tb, i, none⟩ (.slice (some ⟨w3.heap.size, 0, none⟩) L L)) w.heap.size W H rg from (set_other (by have := L1.out; omega)).trans ((heap_alloc_old _ _ N3.out.lt).trans N3.out))
      have B4 := hide' (show Below w.heap.size w ((w3.alloc (.cells (arrQ L (iQ fun _ => 0)) 3)).setCell ⟨tb, i, none⟩ (.slice (some ⟨w3.heap.size, 0, none⟩) L L)) from (B3.out.alloc B3.out.size _).setCell (p := ⟨tb, i, none⟩) (Nat.le_of_lt L1.out) _)
      have BL := hide' (T3.out.blk.alloc (.cells (arrQ L (iQ fun _ => 0)) 3))
      obtain ⟨w4, hw4⟩ : ∃ w4, w3.alloc (.cells (arrQ L (iQ fun _ => 0)) 3) = w4 := ⟨_, rfl⟩
      rw [hw4] at mk T4 N4 B4 BL
      have fz := BL.out.frozen i
      have tl4 := BL.out.lt
      have ct4 := BL.out.cell il
      clear hw4
      go_wp2
      exact ⟨⟨i + 1, _, by go_num, by omega, hide' (T4.out.ext fun r _ k _ => by split <;> rfl), N4, B4⟩, by simp [intOf]; omega⟩
    · obtain rfl : i = M := by omega
      go_wp2
      go_ret
      exact ⟨tb, q, rfl, TB.out, BW.out⟩
end Go.Proofs.YtopcgkncmhhkmaaDoor

