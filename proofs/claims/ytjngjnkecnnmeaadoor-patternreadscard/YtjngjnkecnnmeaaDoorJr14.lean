/-
  What the last text of this claim leans on, part 14: Qa3.
-/
import Derived.Test.YtjngjnkecnnmeaaDoorJr12
namespace Go.Proofs.YtjngjnkecnnmeaaDoor
open Go.RowKit
set_option linter.unusedVariables false

set_option maxRecDepth 100000 in
set_option maxHeartbeats 6400000 in
theorem refParseRuns (s : ByteArray) (w : World) (hs : s.size ≤ 40000) :
    Calls Tryd.prog 40 #[.string s] w (RefRuns s w) := by
  have n1 : ¬ (40000 : Int) < (s.size : Int) := by omega
  have hsm : s.size ≤ maxLen := by unfold maxLen; omega
  go_enter Tryd.func40, Tryd.ntmps40
  go_wp2_with fail
  refine (sides_any s _ hs).mono ?_
  rintro e w1 ⟨b1, (⟨W, H, k, hh, rfl, lk, lW, lH⟩ | ⟨k, f, hh, hf1, rfl⟩)⟩
  rotate_left
  · have nf : ((f : Int) != 0) = true := by simp; omega
    have RE := hide' (show runsS s = .inr (k, f) by unfold runsS; rw [if_neg (by omega), hh])
    have r0 := (res_new w 51).block (w' := (w.alloc (.cells #[.int .i64 0, .int .i64 0, .slice none 0 0] 51)).alloc (.cells #[.int .i64 0, .int .i64 0, .slice none 0 0] 51)) (Below.heap_alloc _ _ _ (by simp))
    have r1 := res_new (w.alloc (.cells #[.int .i64 0, .int .i64 0, .slice none 0 0] 51)) 51
    rw [show (w.alloc (.cells #[.int .i64 0, .int .i64 0, .slice none 0 0] 51)).heap.size = w.heap.size + 1 by simp] at r1
    obtain ⟨y0, y1, y2, g0, g1, g2⟩ := r0.block (b1.block _ (by simp; omega))
    obtain ⟨t0, t1, t2, -, -, -⟩ := r1.block (b1.block _ (by simp))
    have B := hide' (show Below w.heap.size w w1 from (((Below.refl _ _).alloc (Nat.le_refl _) _).alloc (by simp) _).trans (b1.mono (by simp; omega)))
    clear hh r0 r1 b1
    go_wp2
    refine bodyPost_ret (v := .tuple #[.agg #[.int .i64 0, .int .i64 0, .slice none 0 0], .int .i64 (k : Int), .int .i64 (f : Int)]) (by simp [results, Tryd.results40, go_sem, y0, y1, y2]) rfl ?_
    exact ⟨fin_below (B.out) _ _ _, Or.inr ⟨k, f, RE.out, hf1, rfl⟩⟩
  have nf : ((0 : Int) != 0) = false := by simp
  obtain ⟨N, hN⟩ : ∃ N, W * H = N := ⟨_, rfl⟩
  have hNi : (W : Int) * (H : Int) = (N : Int) := by rw [← hN]; simp
  have hN4 : N ≤ 10000 := by rw [← hN]; exact Nat.mul_le_mul lW lH
  have hmk := run_make_row' (P := Tryd.prog) 22 3 (.int .i64 0) 8 Tryd.underlying22 info_int rfl .i64 .i64 N (by omega) (by omega)
  have HF0 := hide' (show fin2 W H (tagsF s W H (s.size + 1 - k) k 0 0 (List.replicate N 0)) = runsS s by
    rw [← hN]
    unfold runsS
    rw [if_neg (by omega), hh]
    dsimp only
    cases tagsF s W H (s.size + 1 - k) k 0 0 (List.replicate (W * H) 0) <;> rfl)
  have S0 := hide' (RS.start (w := w) (w1 := w1) (W := W) (H := H) 51 51 51 3 lW lH (b1.mono (by simp)) N hN)
  clear hh b1 hN
  obtain ⟨P, hP⟩ : ∃ P, w1.heap.size = P := ⟨_, rfl⟩
  go_wp2
  rw [hP] at S0
  go_loopw [8, 11, 12] (fun iv xv yv wr => ∃ (i x y : Nat) (xs : List Int), iv = .int .i64 (i : Int) ∧ xv = .int .i64 (x : Int) ∧ yv = .int .i64 (y : Int) ∧ i ≤ s.size ∧ x ≤ W ∧ y ≤ H ∧ RS w wr P W H xs ∧ zeros xs (y * W + x) ∧ fin2 W H (tagsF s W H (s.size + 1 - i) i x y xs) = runsS s) (fun iv _ _ _ => s.size - (intOf iv).toNat)
  case atStart => exact ⟨k, 0, 0, List.replicate N 0, rfl, rfl, rfl, lk, by omega, by omega, S0.out, zeros_replicate _ _, HF0.out⟩
  case round =>
    obtain ⟨i, x, y, xs, rfl, rfl, rfl, hli, hxw, hyh, rs, hz, hF⟩ := hrel
    have S := hide' rs
    have ZE := hide' hz
    have HF := hide' hF
    have B := hide' rs.below
    obtain ⟨y0, y1, y2, g0, g1, g2⟩ := rs.res
    obtain ⟨t0, t1, t2, -, -, -⟩ := rs.non
    have p0 := rs.p0
    have p1 := rs.p1
    have p2 := rs.p2
    clear rs hz hF hmk HF0 S0 hNi hP
    go_wp2
    go_loop [8] (fun jv => ∃ j : Nat, jv = .int .i64 (j : Int) ∧ i ≤ j ∧ j ≤ s.size ∧ sk s j = sk s i) (fun jv => s.size - (intOf jv).toNat)
    case atStart => exact ⟨i, rfl, by omega, hli, rfl⟩
    case round =>
      obtain ⟨j, rfl, hij, hjs, hsk⟩ := hrel
      by_cases d : s.size ≤ j
      · have o1 : ¬ (j : Int) < (s.size : Int) := by omega
        have o2 : (s.size : Int) ≤ (j : Int) := by omega
        have HSK := hide' (show sk s i = j by rw [← hsk]; exact sk_stop (blankAt_false.2 (by omega)))
        have hd0 : inR s j 48 57 = false := inR_false.2 (by omega)
        have RE := hide' (show runsS s = .inr (j, 2) by
          rw [← HF.out, tagsF_bad hli (by rw [HSK.out]; exact tag1_none (by unfold tagBad dAt; rw [hd0]; simp) (by unfold tagK dAt; rw [hd0]; simp [bt, show ¬ j < s.size by omega]) (by unfold tagK dAt; rw [hd0]; simp [bt, show ¬ j < s.size by omega]) (by unfold tagK dAt; rw [hd0]; simp [bt, show ¬ j < s.size by omega]) (by unfold tagK dAt; rw [hd0]; simp [bt, show ¬ j < s.size by omega]))]
          unfold tagK dAt; rw [hd0]; rfl)
        clear hsk d hd0
        go_wp2
        refine bodyPost_ret (v := .tuple #[.agg #[.int .i64 0, .int .i64 0, .slice none 0 0], .int .i64 ((j : Nat) : Int), .int .i64 2]) (by simp [results, Tryd.results40, go_sem, y0, y1, y2]) rfl ?_
        exact ⟨fin_below (B.out) _ _ _, Or.inr ⟨j, 2, RE.out, by omega, rfl⟩⟩
      have o1 : (j : Int) < (s.size : Int) := by omega
      have hjl : j < s.size := by omega
      have hbj := bt_lt s j hjl
      clear d
      by_cases b32 : bt s j = 32
      · have o2 : ((s[j].toNat : Int) == 32) = true := by simp; omega
        have HB2 := hide' ((sk_step (blankAt_true.2 ⟨hjl, Or.inl b32⟩)).symm.trans hsk)
        clear b32 hbj hsk
        go_wp2
        exact ⟨⟨j + 1, by go_num, by omega, by omega, HB2.out⟩, by simp [intOf]; omega⟩
      have o2 : ((s[j].toNat : Int) == 32) = false := by simp; omega
      by_cases b10 : bt s j = 10
      · have o3 : ((s[j].toNat : Int) == 10) = true := by simp; omega
        have HB2 := hide' ((sk_step (blankAt_true.2 ⟨hjl, Or.inr b10⟩)).symm.trans hsk)
        clear b32 b10 hbj hsk
        go_wp2
        exact ⟨⟨j + 1, by go_num, by omega, by omega, HB2.out⟩, by simp [intOf]; omega⟩
      have o3 : ((s[j].toNat : Int) == 10) = false := by simp; omega
      have HSK := hide' (show sk s i = j by rw [← hsk]; exact sk_stop (blankAt_false.2 (by omega)))
      clear hsk b32 b10
      by_cases c48 : 48 ≤ bt s j
      · have o4 : (48 : Int) ≤ (s[j].toNat : Int) := by omega
        by_cases c57 : bt s j ≤ 57
        · have o5 : (s[j].toNat : Int) ≤ 57 := by omega
          have D := hide' (show inR s j 48 57 = true from inR_true.2 ⟨hjl, by omega, by omega⟩)
          clear hbj c48 c57
          go_wp2_with fail
          refine (Number_any s j _ _ rfl hsm hjs).mono ?_
          rintro e w3 ⟨N, rfl, hN, rfl⟩
          have hcap := hN.hi
          have hgt := num_gt D.out
          rcases six_of hN with ⟨b1, b2⟩ | ⟨b1, b2, b3⟩ | ⟨b1, b2, b3, b4⟩
          · have RE := hide' (show runsS s = .inr (j, 2) by rw [← HF.out, tagsF_bad hli (by rw [HSK.out]; exact tag1_bad (by unfold tagBad dAt; rw [D.out, b2]; simp))]; rfl)
            have m0 : N < 2 := by omega
            clear hN b2
            go_wp2
            refine bodyPost_ret (v := .tuple #[.agg #[.int .i64 0, .int .i64 0, .slice none 0 0], .int .i64 ((j : Nat) : Int), .int .i64 2]) (by simp [results, Tryd.results40, go_sem, y0, y1, y2]) rfl ?_
            exact ⟨fin_below (B.out) _ _ _, Or.inr ⟨j, 2, RE.out, by omega, rfl⟩⟩
          · have RE := hide' (show runsS s = .inr (j, 2) by rw [← HF.out, tagsF_bad hli (by rw [HSK.out]; exact tag1_bad (by unfold tagBad dAt; rw [D.out, b3]; simp))]; rfl)
            clear hN b3
            by_cases m0 : N < 2
            · go_wp2
              refine bodyPost_ret (v := .tuple #[.agg #[.int .i64 0, .int .i64 0, .slice none 0 0], .int .i64 ((j : Nat) : Int), .int .i64 2]) (by simp [results, Tryd.results40, go_sem, y0, y1, y2]) rfl ?_
              exact ⟨fin_below (B.out) _ _ _, Or.inr ⟨j, 2, RE.out, by omega, rfl⟩⟩
            · go_wp2
              refine bodyPost_ret (v := .tuple #[.agg #[.int .i64 0, .int .i64 0, .slice none 0 0], .int .i64 ((j : Nat) : Int), .int .i64 2]) (by simp [results, Tryd.results40, go_sem, y0, y1, y2]) rfl ?_
              exact ⟨fin_below (B.out) _ _ _, Or.inr ⟨j, 2, RE.out, by omega, rfl⟩⟩
          · obtain ⟨M, hM⟩ : ∃ M, (num s j).1 = M := ⟨_, rfl⟩
            rw [hM] at b4
            subst b4
            have hKs : (num s j).2 ≤ s.size := num_size s j hjs
            by_cases g : M < 2
            · have m0 : (M : Int) < 2 := by omega
              have RE := hide' (show runsS s = .inr (j, 2) by rw [← HF.out, tagsF_bad hli (by rw [HSK.out]; exact tag1_bad (by unfold tagBad dAt; rw [D.out, b3, hM]; simp; omega))]; rfl)
              clear hN b3 hM g
              go_wp2
              refine bodyPost_ret (v := .tuple #[.agg #[.int .i64 0, .int .i64 0, .slice none 0 0], .int .i64 ((j : Nat) : Int), .int .i64 2]) (by simp [results, Tryd.results40, go_sem, y0, y1, y2]) rfl ?_
              exact ⟨fin_below (B.out) _ _ _, Or.inr ⟨j, 2, RE.out, by omega, rfl⟩⟩
            have m0 : ¬ (M : Int) < 2 := by omega
            have HTN := hide' (show tagN s j = M by unfold tagN dAt; rw [D.out, ← hM]; rfl)
            have HTK := hide' (show tagK s j = (num s j).2 by unfold tagK dAt; rw [D.out]; rfl)
            have HB := hide' (show tagBad s j = false by unfold tagBad dAt; rw [D.out, b3, hM]; simp; omega)
            clear hN b3 hM
            by_cases eK : s.size ≤ (num s j).2
            · have m1 : (s.size : Int) ≤ ((num s j).2 : Int) := by omega
              have RE := hide' (show runsS s = .inr ((num s j).2, 2) by
                rw [← HF.out, tagsF_bad hli (by rw [HSK.out]; exact tag1_none HB.out (by rw [HTK.out]; simp [bt, show ¬ (num s j).2 < s.size by omega]) (by rw [HTK.out]; simp [bt, show ¬ (num s j).2 < s.size by omega]) (by rw [HTK.out]; simp [bt, show ¬ (num s j).2 < s.size by omega]) (by rw [HTK.out]; simp [bt, show ¬ (num s j).2 < s.size by omega])), HTK.out]; rfl)
              clear eK
              go_wp2
              refine bodyPost_ret (v := .tuple #[.agg #[.int .i64 0, .int .i64 0, .slice none 0 0], .int .i64 (((num s j).2 : Nat) : Int), .int .i64 2]) (by simp [results, Tryd.results40, go_sem, y0, y1, y2]) rfl ?_
              exact ⟨fin_below (B.out) _ _ _, Or.inr ⟨(num s j).2, 2, RE.out, by omega, rfl⟩⟩
            have m1 : ¬ (s.size : Int) ≤ ((num s j).2 : Int) := by omega
            have hKl : (num s j).2 < s.size := by omega
            have hbK := bt_lt s (num s j).2 hKl
            clear eK
            by_cases q98 : bt s (num s j).2 = 98
            · have m2 : ((s[(num s j).2].toNat : Int) == 98) = true := by simp; omega
              have m7 : ((s[(num s j).2].toNat : Int) == 111) = false := by simp; omega
              have Q := hide' q98
              clear q98 hbK
              by_cases hc : H ≤ y ∨ W < x + M
              · have RE := hide' (show runsS s = .inr (j, 1) by
                  rw [← HF.out, tagsF_bad hli (by rw [HSK.out]; exact tag1_cells_bad HB.out (by rw [HTK.out]; exact hKl) (by rw [HTK.out]; exact Or.inl Q.out) (by rw [HTN.out]; exact hc))]; rfl)
                by_cases hy : H ≤ y
                · have m5 : (H : Int) ≤ (y : Int) := by omega
                  clear hc
                  go_wp2
                  refine bodyPost_ret (v := .tuple #[.agg #[.int .i64 0, .int .i64 0, .slice none 0 0], .int .i64 ((j : Nat) : Int), .int .i64 1]) (by simp [results, Tryd.results40, go_sem, y0, y1, y2]) rfl ?_
                  exact ⟨fin_below (B.out) _ _ _, Or.inr ⟨j, 1, RE.out, by omega, rfl⟩⟩
                · have m5 : ¬ (H : Int) ≤ (y : Int) := by omega
                  have m6 : (W : Int) < (x : Int) + (M : Int) := by omega
                  clear hc
                  go_wp2
                  refine bodyPost_ret (v := .tuple #[.agg #[.int .i64 0, .int .i64 0, .slice none 0 0], .int .i64 ((j : Nat) : Int), .int .i64 1]) (by simp [results, Tryd.results40, go_sem, y0, y1, y2]) rfl ?_
                  exact ⟨fin_below (B.out) _ _ _, Or.inr ⟨j, 1, RE.out, by omega, rfl⟩⟩
              have m5 : ¬ (H : Int) ≤ (y : Int) := by omega
              have m6 : ¬ (W : Int) < (x : Int) + (M : Int) := by omega
              have hyW : y * W + x + M ≤ W * H := by
                rw [Nat.mul_comm W H]
                have := Nat.mul_le_mul_right W (show y + 1 ≤ H by omega)
                rw [Nat.add_mul] at this
                omega
              have F5 := hide' (show fin2 W H (tagsF s W H (s.size + 1 - ((num s j).2 + 1)) ((num s j).2 + 1) (x + M) y (setRun xs (y * W + x) M 0)) = runsS s by
                rw [← HF.out, tagsF_on hli (by rw [HSK.out]; exact tag1_cells_on 0 HB.out (by rw [HTK.out]; exact hKl) (by rw [HTK.out]; exact Or.inl Q.out) (by rw [HTK.out, Q.out]; simp) (by rw [HTN.out]; exact hc)), HTK.out, HTN.out])
              clear hc
              have HZ := hide' (setRun_zero ZE.out M)
              have Z5 := hide' (show zeros xs (y * W + (x + M)) from zeros_mono ZE.out (by omega))
              go_wp2
              go_loop [18] (fun kv => ∃ k : Nat, kv = .int .i64 (k : Int) ∧ k ≤ M) (fun kv => M - (intOf kv).toNat)
              case atStart => exact ⟨0, rfl, by omega⟩
              case round =>
                obtain ⟨k, rfl, hk⟩ := hrel
                by_cases d : k < M
                · have o1 : (k : Int) < (M : Int) := by omega
                  go_wp2
                  exact ⟨⟨k + 1, by go_num, by omega⟩, by simp [intOf]; omega⟩
                · have o1 : ¬ (k : Int) < (M : Int) := by omega
                  go_wp2
                  refine ⟨⟨(num s j).2 + 1, x + M, y, xs, by go_num, by go_num, rfl, by omega, by omega, by omega, S.out, Z5.out, ?_⟩, by simp [intOf]; omega⟩
                  have f := F5.out
                  rw [HZ.out] at f
                  exact f
            have m2 : ((s[(num s j).2].toNat : Int) == 98) = false := by simp; omega
            by_cases q111 : bt s (num s j).2 = 111
            · have m3 : ((s[(num s j).2].toNat : Int) == 111) = true := by simp; omega
              have Q := hide' q111
              clear q98 q111 hbK
              by_cases hc : H ≤ y ∨ W < x + M
              · have RE := hide' (show runsS s = .inr (j, 1) by
                  rw [← HF.out, tagsF_bad hli (by rw [HSK.out]; exact tag1_cells_bad HB.out (by rw [HTK.out]; exact hKl) (by rw [HTK.out]; exact Or.inr Q.out) (by rw [HTN.out]; exact hc))]; rfl)
                by_cases hy : H ≤ y
                · have m5 : (H : Int) ≤ (y : Int) := by omega
                  clear hc
                  go_wp2
                  refine bodyPost_ret (v := .tuple #[.agg #[.int .i64 0, .int .i64 0, .slice none 0 0], .int .i64 ((j : Nat) : Int), .int .i64 1]) (by simp [results, Tryd.results40, go_sem, y0, y1, y2]) rfl ?_
                  exact ⟨fin_below (B.out) _ _ _, Or.inr ⟨j, 1, RE.out, by omega, rfl⟩⟩
                · have m5 : ¬ (H : Int) ≤ (y : Int) := by omega
                  have m6 : (W : Int) < (x : Int) + (M : Int) := by omega
                  clear hc
                  go_wp2
                  refine bodyPost_ret (v := .tuple #[.agg #[.int .i64 0, .int .i64 0, .slice none 0 0], .int .i64 ((j : Nat) : Int), .int .i64 1]) (by simp [results, Tryd.results40, go_sem, y0, y1, y2]) rfl ?_
                  exact ⟨fin_below (B.out) _ _ _, Or.inr ⟨j, 1, RE.out, by omega, rfl⟩⟩
              have m5 : ¬ (H : Int) ≤ (y : Int) := by omega
              have m6 : ¬ (W : Int) < (x : Int) + (M : Int) := by omega
              have hyW : y * W + x + M ≤ W * H := by
                rw [Nat.mul_comm W H]
                have := Nat.mul_le_mul_right W (show y + 1 ≤ H by omega)
                rw [Nat.add_mul] at this
                omega
              have F5 := hide' (show fin2 W H (tagsF s W H (s.size + 1 - ((num s j).2 + 1)) ((num s j).2 + 1) (x + M) y (setRun xs (y * W + x) M 1)) = runsS s by
                rw [← HF.out, tagsF_on hli (by rw [HSK.out]; exact tag1_cells_on 1 HB.out (by rw [HTK.out]; exact hKl) (by rw [HTK.out]; exact Or.inr Q.out) (by rw [HTK.out, Q.out]; simp) (by rw [HTN.out]; exact hc)), HTK.out, HTN.out])
              clear hc
              obtain ⟨Y, hY⟩ : ∃ Y, y * W = Y := ⟨_, rfl⟩
              obtain ⟨N, hN⟩ : ∃ N, W * H = N := ⟨_, rfl⟩
              have hYi : (y : Int) * (W : Int) = (Y : Int) := by rw [← hY]; simp
              have HYY := hide' hY
              have HNN := hide' hN
              have hN4 : N ≤ 10000 := by rw [← hN]; exact Nat.mul_le_mul lW lH
              rw [hY, hN] at hyW
              have Z5 := hide' (show zeros (setRun xs (y * W + x) M 1) (y * W + (x + M)) by
                have := setRun_zeros (xs := xs) (p := y * W + x) 1 M (zeros_mono ZE.out (by omega))
                rw [Nat.add_assoc] at this
                exact this)
              clear hY hN
              go_wp2
              go_loopw [18] (fun kv wx => ∃ k : Nat, kv = .int .i64 (k : Int) ∧ k ≤ M ∧ RS w wx P W H (setRun xs (y * W + x) k 1)) (fun kv _ => M - (intOf kv).toNat)
              case atStart => exact ⟨0, rfl, by omega, S.out⟩
              case round =>
                obtain ⟨k, rfl, hk, rs⟩ := hrel
                have RR := hide' rs
                have d2 := rs.p2
                rw [HNN.out] at d2
                obtain ⟨y0, y1, y2, g0, g1, g2⟩ := rs.res
                clear rs
                by_cases d : k < M
                · have o1 : (k : Int) < (M : Int) := by omega
                  have hpl : Y + x + k < (setRun xs (y * W + x) k 1).length := by rw [setRun_length, S.out.len, HNN.out]; omega
                  have hv := RR.out.cel.cells (Y + x + k) hpl
                  have hf := RR.out.cel.fz (Y + x + k)
                  have HPL := hide' hpl
                  have hlt : Y + x + k < N := by omega
                  clear hpl
                  go_wp2
                  refine ⟨⟨k + 1, by go_num, by omega, ?_⟩, by simp [intOf]; omega⟩
                  have := RR.out.set (Y + x + k) 1 HPL.out
                  rw [setRun, HYY.out]
                  rw [HYY.out] at this
                  exact this
                · have o1 : ¬ (k : Int) < (M : Int) := by omega
                  have hkn : k = M := by omega
                  have KN := hide' hkn
                  clear hkn
                  go_wp2
                  refine ⟨⟨(num s j).2 + 1, x + M, y, setRun xs (y * W + x) M 1, by go_num, by go_num, rfl, by omega, by omega, by omega, ?_, Z5.out, F5.out⟩, by simp [intOf]; omega⟩
                  have := RR.out
                  rw [KN.out] at this
                  exact this
            have m3 : ((s[(num s j).2].toNat : Int) == 111) = false := by simp; omega
            by_cases q36 : bt s (num s j).2 = 36
            · have m4 : ((s[(num s j).2].toNat : Int) == 36) = true := by simp; omega
              have Q := hide' q36
              clear q98 q111 q36 hbK
              by_cases hc : H ≤ y + M
              · have m5 : (H : Int) ≤ (y : Int) + (M : Int) := by omega
                have RE := hide' (show runsS s = .inr (j, 1) by
                  rw [← HF.out, tagsF_bad hli (by rw [HSK.out]; exact tag1_rows_bad HB.out (by rw [HTK.out]; exact hKl) (by rw [HTK.out]; exact Q.out) (by rw [HTN.out]; exact hc))]; rfl)
                go_wp2
                refine bodyPost_ret (v := .tuple #[.agg #[.int .i64 0, .int .i64 0, .slice none 0 0], .int .i64 ((j : Nat) : Int), .int .i64 1]) (by simp [results, Tryd.results40, go_sem, y0, y1, y2]) rfl ?_
                exact ⟨fin_below (B.out) _ _ _, Or.inr ⟨j, 1, RE.out, by omega, rfl⟩⟩
              · have m5 : ¬ (H : Int) ≤ (y : Int) + (M : Int) := by omega
                have F5 := hide' (show fin2 W H (tagsF s W H (s.size + 1 - ((num s j).2 + 1)) ((num s j).2 + 1) 0 (y + M) xs) = runsS s by
                  rw [← HF.out, tagsF_on hli (by rw [HSK.out]; exact tag1_rows_on HB.out (by rw [HTK.out]; exact hKl) (by rw [HTK.out]; exact Q.out) (by rw [HTN.out]; exact hc)), HTK.out, HTN.out])
                have Z5 := hide' (show zeros xs ((y + M) * W + 0) from zeros_mono ZE.out (by rw [Nat.add_mul]; have := Nat.mul_le_mul_right W (show 1 ≤ M by omega); omega))
                go_wp2
                refine ⟨⟨(num s j).2 + 1, 0, y + M, xs, by go_num, rfl, by go_num, by omega, by omega, by omega, S.out, Z5.out, F5.out⟩, ?_⟩
                simp [intOf]; omega
            have m4 : ((s[(num s j).2].toNat : Int) == 36) = false := by simp; omega
            by_cases q33 : bt s (num s j).2 = 33
            · have m5 : ((s[(num s j).2].toNat : Int) == 33) = true := by simp; omega
              have Q := hide' q33
              clear q98 q111 q36 q33 hbK
              by_cases hc : (num s j).2 = j
              · exact absurd hc (by omega)
              · have m6 : ((j : Int) != ((num s j).2 : Int)) = true := by simp; omega
                have RE := hide' (show runsS s = .inr ((num s j).2, 2) by
                  rw [← HF.out, tagsF_bad hli (by rw [HSK.out]; exact tag1_end_bad HB.out (by rw [HTK.out]; exact hKl) (by rw [HTK.out]; exact Q.out) (by rw [HTK.out]; exact hc)), HTK.out]; rfl)
                go_wp2
                refine bodyPost_ret (v := .tuple #[.agg #[.int .i64 0, .int .i64 0, .slice none 0 0], .int .i64 (((num s j).2 : Nat) : Int), .int .i64 2]) (by simp [results, Tryd.results40, go_sem, y0, y1, y2]) rfl ?_
                exact ⟨fin_below (B.out) _ _ _, Or.inr ⟨(num s j).2, 2, RE.out, by omega, rfl⟩⟩
            have m5 : ((s[(num s j).2].toNat : Int) == 33) = false := by simp; omega
            have RE := hide' (show runsS s = .inr ((num s j).2, 2) by
              rw [← HF.out, tagsF_bad hli (by rw [HSK.out]; exact tag1_none HB.out (by rw [HTK.out]; exact q98) (by rw [HTK.out]; exact q111) (by rw [HTK.out]; exact q36) (by rw [HTK.out]; exact q33)), HTK.out]; rfl)
            clear q98 q111 q36 q33 hbK
            go_wp2
            refine bodyPost_ret (v := .tuple #[.agg #[.int .i64 0, .int .i64 0, .slice none 0 0], .int .i64 (((num s j).2 : Nat) : Int), .int .i64 2]) (by simp [results, Tryd.results40, go_sem, y0, y1, y2]) rfl ?_
            exact ⟨fin_below (B.out) _ _ _, Or.inr ⟨(num s j).2, 2, RE.out, by omega, rfl⟩⟩
        have o5 : ¬ (s[j].toNat : Int) ≤ 57 := by omega
        have D := hide' (show inR s j 48 57 = false from inR_false.2 (by omega))
        clear hbj c48 c57
        have HTN := hide' (show tagN s j = 1 by unfold tagN dAt; rw [D.out]; rfl)
        have HTK := hide' (show tagK s j = j by unfold tagK dAt; rw [D.out]; rfl)
        have HB := hide' (show tagBad s j = false by unfold tagBad dAt; rw [D.out]; rfl)
        by_cases eK : s.size ≤ j
        · exact absurd eK (by omega)
        have m1 : ¬ (s.size : Int) ≤ (j : Int) := by omega
        have hKl : j < s.size := by omega
        have hbK := bt_lt s j hKl
        clear eK
        by_cases q98 : bt s j = 98
        · have m2 : ((s[j].toNat : Int) == 98) = true := by simp; omega
          have m7 : ((s[j].toNat : Int) == 111) = false := by simp; omega
          have Q := hide' q98
          clear q98 hbK
          by_cases hc : H ≤ y ∨ W < x + 1
          · have RE := hide' (show runsS s = .inr (j, 1) by
              rw [← HF.out, tagsF_bad hli (by rw [HSK.out]; exact tag1_cells_bad HB.out (by rw [HTK.out]; exact hKl) (by rw [HTK.out]; exact Or.inl Q.out) (by rw [HTN.out]; exact hc))]; rfl)
            by_cases hy : H ≤ y
            · have m5 : (H : Int) ≤ (y : Int) := by omega
              clear hc
              go_wp2
              refine bodyPost_ret (v := .tuple #[.agg #[.int .i64 0, .int .i64 0, .slice none 0 0], .int .i64 ((j : Nat) : Int), .int .i64 1]) (by simp [results, Tryd.results40, go_sem, y0, y1, y2]) rfl ?_
              exact ⟨fin_below (B.out) _ _ _, Or.inr ⟨j, 1, RE.out, by omega, rfl⟩⟩
            · have m5 : ¬ (H : Int) ≤ (y : Int) := by omega
              have m6 : (W : Int) < (x : Int) + (1 : Int) := by omega
              clear hc
              go_wp2
              refine bodyPost_ret (v := .tuple #[.agg #[.int .i64 0, .int .i64 0, .slice none 0 0], .int .i64 ((j : Nat) : Int), .int .i64 1]) (by simp [results, Tryd.results40, go_sem, y0, y1, y2]) rfl ?_
              exact ⟨fin_below (B.out) _ _ _, Or.inr ⟨j, 1, RE.out, by omega, rfl⟩⟩
          have m5 : ¬ (H : Int) ≤ (y : Int) := by omega
          have m6 : ¬ (W : Int) < (x : Int) + (1 : Int) := by omega
          have hyW : y * W + x + 1 ≤ W * H := by
            rw [Nat.mul_comm W H]
            have := Nat.mul_le_mul_right W (show y + 1 ≤ H by omega)
            rw [Nat.add_mul] at this
            omega
          have F5 := hide' (show fin2 W H (tagsF s W H (s.size + 1 - (j + 1)) (j + 1) (x + 1) y (setRun xs (y * W + x) 1 0)) = runsS s by
            rw [← HF.out, tagsF_on hli (by rw [HSK.out]; exact tag1_cells_on 0 HB.out (by rw [HTK.out]; exact hKl) (by rw [HTK.out]; exact Or.inl Q.out) (by rw [HTK.out, Q.out]; simp) (by rw [HTN.out]; exact hc)), HTK.out, HTN.out])
          clear hc
          have HZ := hide' (setRun_zero ZE.out 1)
          have Z5 := hide' (show zeros xs (y * W + (x + 1)) from zeros_mono ZE.out (by omega))
          go_wp2
          go_loop [18] (fun kv => ∃ k : Nat, kv = .int .i64 (k : Int) ∧ k ≤ 1) (fun kv => 1 - (intOf kv).toNat)
          case atStart => exact ⟨0, rfl, by omega⟩
          case round =>
            obtain ⟨k, rfl, hk⟩ := hrel
            by_cases d : k < 1
            · have o1 : (k : Int) < (1 : Int) := by omega
              go_wp2
              exact ⟨⟨k + 1, by go_num, by omega⟩, by simp [intOf]; omega⟩
            · have o1 : ¬ (k : Int) < (1 : Int) := by omega
              go_wp2
              refine ⟨⟨j + 1, x + 1, y, xs, by go_num, by go_num, rfl, by omega, by omega, by omega, S.out, Z5.out, ?_⟩, by simp [intOf]; omega⟩
              have f := F5.out
              rw [HZ.out] at f
              exact f
        have m2 : ((s[j].toNat : Int) == 98) = false := by simp; omega
        by_cases q111 : bt s j = 111
        · have m3 : ((s[j].toNat : Int) == 111) = true := by simp; omega
          have Q := hide' q111
          clear q98 q111 hbK
          by_cases hc : H ≤ y ∨ W < x + 1
          · have RE := hide' (show runsS s = .inr (j, 1) by
              rw [← HF.out, tagsF_bad hli (by rw [HSK.out]; exact tag1_cells_bad HB.out (by rw [HTK.out]; exact hKl) (by rw [HTK.out]; exact Or.inr Q.out) (by rw [HTN.out]; exact hc))]; rfl)
            by_cases hy : H ≤ y
            · have m5 : (H : Int) ≤ (y : Int) := by omega
              clear hc
              go_wp2
              refine bodyPost_ret (v := .tuple #[.agg #[.int .i64 0, .int .i64 0, .slice none 0 0], .int .i64 ((j : Nat) : Int), .int .i64 1]) (by simp [results, Tryd.results40, go_sem, y0, y1, y2]) rfl ?_
              exact ⟨fin_below (B.out) _ _ _, Or.inr ⟨j, 1, RE.out, by omega, rfl⟩⟩
            · have m5 : ¬ (H : Int) ≤ (y : Int) := by omega
              have m6 : (W : Int) < (x : Int) + (1 : Int) := by omega
              clear hc
              go_wp2
              refine bodyPost_ret (v := .tuple #[.agg #[.int .i64 0, .int .i64 0, .slice none 0 0], .int .i64 ((j : Nat) : Int), .int .i64 1]) (by simp [results, Tryd.results40, go_sem, y0, y1, y2]) rfl ?_
              exact ⟨fin_below (B.out) _ _ _, Or.inr ⟨j, 1, RE.out, by omega, rfl⟩⟩
          have m5 : ¬ (H : Int) ≤ (y : Int) := by omega
          have m6 : ¬ (W : Int) < (x : Int) + (1 : Int) := by omega
          have hyW : y * W + x + 1 ≤ W * H := by
            rw [Nat.mul_comm W H]
            have := Nat.mul_le_mul_right W (show y + 1 ≤ H by omega)
            rw [Nat.add_mul] at this
            omega
          have F5 := hide' (show fin2 W H (tagsF s W H (s.size + 1 - (j + 1)) (j + 1) (x + 1) y (setRun xs (y * W + x) 1 1)) = runsS s by
            rw [← HF.out, tagsF_on hli (by rw [HSK.out]; exact tag1_cells_on 1 HB.out (by rw [HTK.out]; exact hKl) (by rw [HTK.out]; exact Or.inr Q.out) (by rw [HTK.out, Q.out]; simp) (by rw [HTN.out]; exact hc)), HTK.out, HTN.out])
          clear hc
          obtain ⟨Y, hY⟩ : ∃ Y, y * W = Y := ⟨_, rfl⟩
          obtain ⟨N, hN⟩ : ∃ N, W * H = N := ⟨_, rfl⟩
          have hYi : (y : Int) * (W : Int) = (Y : Int) := by rw [← hY]; simp
          have HYY := hide' hY
          have HNN := hide' hN
          have hN4 : N ≤ 10000 := by rw [← hN]; exact Nat.mul_le_mul lW lH
          rw [hY, hN] at hyW
          have Z5 := hide' (show zeros (setRun xs (y * W + x) 1 1) (y * W + (x + 1)) by
            have := setRun_zeros (xs := xs) (p := y * W + x) 1 1 (zeros_mono ZE.out (by omega))
            rw [Nat.add_assoc] at this
            exact this)
          clear hY hN
          go_wp2
          go_loopw [18] (fun kv wx => ∃ k : Nat, kv = .int .i64 (k : Int) ∧ k ≤ 1 ∧ RS w wx P W H (setRun xs (y * W + x) k 1)) (fun kv _ => 1 - (intOf kv).toNat)
          case atStart => exact ⟨0, rfl, by omega, S.out⟩
          case round =>
            obtain ⟨k, rfl, hk, rs⟩ := hrel
            have RR := hide' rs
            have d2 := rs.p2
            rw [HNN.out] at d2
            obtain ⟨y0, y1, y2, g0, g1, g2⟩ := rs.res
            clear rs
            by_cases d : k < 1
            · have o1 : (k : Int) < (1 : Int) := by omega
              have hpl : Y + x + k < (setRun xs (y * W + x) k 1).length := by rw [setRun_length, S.out.len, HNN.out]; omega
              have hv := RR.out.cel.cells (Y + x + k) hpl
              have hf := RR.out.cel.fz (Y + x + k)
              have HPL := hide' hpl
              have hlt : Y + x + k < N := by omega
              clear hpl
              go_wp2
              refine ⟨⟨k + 1, by go_num, by omega, ?_⟩, by simp [intOf]; omega⟩
              have := RR.out.set (Y + x + k) 1 HPL.out
              rw [setRun, HYY.out]
              rw [HYY.out] at this
              exact this
            · have o1 : ¬ (k : Int) < (1 : Int) := by omega
              have hkn : k = 1 := by omega
              have KN := hide' hkn
              clear hkn
              go_wp2
              refine ⟨⟨j + 1, x + 1, y, setRun xs (y * W + x) 1 1, by go_num, by go_num, rfl, by omega, by omega, by omega, ?_, Z5.out, F5.out⟩, by simp [intOf]; omega⟩
              have := RR.out
              rw [KN.out] at this
              exact this
        have m3 : ((s[j].toNat : Int) == 111) = false := by simp; omega
        by_cases q36 : bt s j = 36
        · have m4 : ((s[j].toNat : Int) == 36) = true := by simp; omega
          have Q := hide' q36
          clear q98 q111 q36 hbK
          by_cases hc : H ≤ y + 1
          · have m5 : (H : Int) ≤ (y : Int) + (1 : Int) := by omega
            have RE := hide' (show runsS s = .inr (j, 1) by
              rw [← HF.out, tagsF_bad hli (by rw [HSK.out]; exact tag1_rows_bad HB.out (by rw [HTK.out]; exact hKl) (by rw [HTK.out]; exact Q.out) (by rw [HTN.out]; exact hc))]; rfl)
            go_wp2
            refine bodyPost_ret (v := .tuple #[.agg #[.int .i64 0, .int .i64 0, .slice none 0 0], .int .i64 ((j : Nat) : Int), .int .i64 1]) (by simp [results, Tryd.results40, go_sem, y0, y1, y2]) rfl ?_
            exact ⟨fin_below (B.out) _ _ _, Or.inr ⟨j, 1, RE.out, by omega, rfl⟩⟩
          · have m5 : ¬ (H : Int) ≤ (y : Int) + (1 : Int) := by omega
            have F5 := hide' (show fin2 W H (tagsF s W H (s.size + 1 - (j + 1)) (j + 1) 0 (y + 1) xs) = runsS s by
              rw [← HF.out, tagsF_on hli (by rw [HSK.out]; exact tag1_rows_on HB.out (by rw [HTK.out]; exact hKl) (by rw [HTK.out]; exact Q.out) (by rw [HTN.out]; exact hc)), HTK.out, HTN.out])
            have Z5 := hide' (show zeros xs ((y + 1) * W + 0) from zeros_mono ZE.out (by rw [Nat.add_mul]; have := Nat.mul_le_mul_right W (show 1 ≤ 1 by omega); omega))
            go_wp2
            refine ⟨⟨j + 1, 0, y + 1, xs, by go_num, rfl, by go_num, by omega, by omega, by omega, S.out, Z5.out, F5.out⟩, ?_⟩
            simp [intOf]; omega
        have m4 : ((s[j].toNat : Int) == 36) = false := by simp; omega
        by_cases q33 : bt s j = 33
        · have m5 : ((s[j].toNat : Int) == 33) = true := by simp; omega
          have Q := hide' q33
          clear q98 q111 q36 q33 hbK
          by_cases hc : j = j
          · have T := hide' (fin_end (x := x) (y := y) (xs := xs) (W := W) (H := H) hli (by rw [HSK.out]; exact tag1_end HB.out (by rw [HTK.out]; exact hKl) (by rw [HTK.out]; exact Q.out) HTK.out))
            clear hc
            go_wp2
            go_loop [19] (fun kv => ∃ k : Nat, kv = .int .i64 (k : Int) ∧ j + 1 ≤ k ∧ k ≤ s.size ∧ sk s k = sk s (j + 1)) (fun kv => s.size - (intOf kv).toNat)
            case atStart => exact ⟨j + 1, by go_num, by omega, by omega, rfl⟩
            case round =>
              obtain ⟨k, rfl, hk1, hk2, hsk⟩ := hrel
              have HSK2 := hide' hsk
              clear hsk
              by_cases d : k < s.size
              · have o1 : (k : Int) < (s.size : Int) := by omega
                have hbk := bt_lt s k d
                by_cases b32 : bt s k = 32
                · have o2 : ((s[k].toNat : Int) != 32) = false := by simp; omega
                  have HB2 := hide' (sk_step (blankAt_true.2 ⟨d, Or.inl b32⟩))
                  clear b32 hbk
                  go_wp2
                  exact ⟨⟨k + 1, by go_num, by omega, by omega, HB2.out.symm.trans HSK2.out⟩, by simp [intOf]; omega⟩
                · have o2 : ((s[k].toNat : Int) != 32) = true := by simp; omega
                  by_cases b10 : bt s k = 10
                  · have o3 : ((s[k].toNat : Int) != 10) = false := by simp; omega
                    have HB2 := hide' (sk_step (blankAt_true.2 ⟨d, Or.inr b10⟩))
                    clear b32 b10 hbk
                    go_wp2
                    exact ⟨⟨k + 1, by go_num, by omega, by omega, HB2.out.symm.trans HSK2.out⟩, by simp [intOf]; omega⟩
                  · have o3 : ((s[k].toNat : Int) != 10) = true := by simp; omega
                    have HB2 := hide' (sk_stop (s := s) (i := k) (blankAt_false.2 (by omega)))
                    have RE := hide' (show runsS s = .inr (k, 2) by
                      rw [← HF.out, T.out]
                      unfold fin3
                      rw [HSK.out, HTK.out, ← HSK2.out, HB2.out, if_neg (by omega)])
                    clear b32 b10 hbk
                    go_wp2
                    refine bodyPost_ret (v := .tuple #[.agg #[.int .i64 0, .int .i64 0, .slice none 0 0], .int .i64 ((k : Nat) : Int), .int .i64 2]) (by simp [results, Tryd.results40, go_sem, y0, y1, y2]) rfl ?_
                    exact ⟨fin_below (B.out) _ _ _, Or.inr ⟨k, 2, RE.out, by omega, rfl⟩⟩
              · have o1 : ¬ (k : Int) < (s.size : Int) := by omega
                have HB2 := hide' (sk_stop (s := s) (i := k) (blankAt_false.2 (by omega)))
                have RE := hide' (show runsS s = .inl (W, H, xs) by
                  rw [← HF.out, T.out]
                  unfold fin3
                  rw [HSK.out, HTK.out, ← HSK2.out, HB2.out, if_pos (by omega)])
                go_wp2
                refine bodyPost_ret (v := .tuple #[.agg #[.int .i64 (W : Int), .int .i64 (H : Int), .slice (some ⟨P + 1, 0, none⟩) (W * H) (W * H)], .int .i64 0, .int .i64 0]) (by simp [results, Tryd.results40, go_sem, y0, y1, y2]) rfl ?_
                exact ⟨fin_below B.out _ _ _, Or.inl ⟨W, H, xs, P + 1, RE.out, rfl, fin_cel S.out.cel (by have := S.out.hP; omega) _ _ _, S.out.len, lW, lH⟩⟩
          · exact absurd rfl hc
        have m5 : ((s[j].toNat : Int) == 33) = false := by simp; omega
        have RE := hide' (show runsS s = .inr (j, 2) by
          rw [← HF.out, tagsF_bad hli (by rw [HSK.out]; exact tag1_none HB.out (by rw [HTK.out]; exact q98) (by rw [HTK.out]; exact q111) (by rw [HTK.out]; exact q36) (by rw [HTK.out]; exact q33)), HTK.out]; rfl)
        clear q98 q111 q36 q33 hbK
        go_wp2
        refine bodyPost_ret (v := .tuple #[.agg #[.int .i64 0, .int .i64 0, .slice none 0 0], .int .i64 ((j : Nat) : Int), .int .i64 2]) (by simp [results, Tryd.results40, go_sem, y0, y1, y2]) rfl ?_
        exact ⟨fin_below (B.out) _ _ _, Or.inr ⟨j, 2, RE.out, by omega, rfl⟩⟩
      have o4 : ¬ (48 : Int) ≤ (s[j].toNat : Int) := by omega
      have D := hide' (show inR s j 48 57 = false from inR_false.2 (by omega))
      clear hbj c48
      have HTN := hide' (show tagN s j = 1 by unfold tagN dAt; rw [D.out]; rfl)
      have HTK := hide' (show tagK s j = j by unfold tagK dAt; rw [D.out]; rfl)
      have HB := hide' (show tagBad s j = false by unfold tagBad dAt; rw [D.out]; rfl)
      by_cases eK : s.size ≤ j
      · exact absurd eK (by omega)
      have m1 : ¬ (s.size : Int) ≤ (j : Int) := by omega
      have hKl : j < s.size := by omega
      have hbK := bt_lt s j hKl
      clear eK
      by_cases q98 : bt s j = 98
      · have m2 : ((s[j].toNat : Int) == 98) = true := by simp; omega
        have m7 : ((s[j].toNat : Int) == 111) = false := by simp; omega
        have Q := hide' q98
        clear q98 hbK
        by_cases hc : H ≤ y ∨ W < x + 1
        · have RE := hide' (show runsS s = .inr (j, 1) by
            rw [← HF.out, tagsF_bad hli (by rw [HSK.out]; exact tag1_cells_bad HB.out (by rw [HTK.out]; exact hKl) (by rw [HTK.out]; exact Or.inl Q.out) (by rw [HTN.out]; exact hc))]; rfl)
          by_cases hy : H ≤ y
          · have m5 : (H : Int) ≤ (y : Int) := by omega
            clear hc
            go_wp2
            refine bodyPost_ret (v := .tuple #[.agg #[.int .i64 0, .int .i64 0, .slice none 0 0], .int .i64 ((j : Nat) : Int), .int .i64 1]) (by simp [results, Tryd.results40, go_sem, y0, y1, y2]) rfl ?_
            exact ⟨fin_below (B.out) _ _ _, Or.inr ⟨j, 1, RE.out, by omega, rfl⟩⟩
          · have m5 : ¬ (H : Int) ≤ (y : Int) := by omega
            have m6 : (W : Int) < (x : Int) + (1 : Int) := by omega
            clear hc
            go_wp2
            refine bodyPost_ret (v := .tuple #[.agg #[.int .i64 0, .int .i64 0, .slice none 0 0], .int .i64 ((j : Nat) : Int), .int .i64 1]) (by simp [results, Tryd.results40, go_sem, y0, y1, y2]) rfl ?_
            exact ⟨fin_below (B.out) _ _ _, Or.inr ⟨j, 1, RE.out, by omega, rfl⟩⟩
        have m5 : ¬ (H : Int) ≤ (y : Int) := by omega
        have m6 : ¬ (W : Int) < (x : Int) + (1 : Int) := by omega
        have hyW : y * W + x + 1 ≤ W * H := by
          rw [Nat.mul_comm W H]
          have := Nat.mul_le_mul_right W (show y + 1 ≤ H by omega)
          rw [Nat.add_mul] at this
          omega
        have F5 := hide' (show fin2 W H (tagsF s W H (s.size + 1 - (j + 1)) (j + 1) (x + 1) y (setRun xs (y * W + x) 1 0)) = runsS s by
          rw [← HF.out, tagsF_on hli (by rw [HSK.out]; exact tag1_cells_on 0 HB.out (by rw [HTK.out]; exact hKl) (by rw [HTK.out]; exact Or.inl Q.out) (by rw [HTK.out, Q.out]; simp) (by rw [HTN.out]; exact hc)), HTK.out, HTN.out])
        clear hc
        have HZ := hide' (setRun_zero ZE.out 1)
        have Z5 := hide' (show zeros xs (y * W + (x + 1)) from zeros_mono ZE.out (by omega))
        go_wp2
        go_loop [18] (fun kv => ∃ k : Nat, kv = .int .i64 (k : Int) ∧ k ≤ 1) (fun kv => 1 - (intOf kv).toNat)
        case atStart => exact ⟨0, rfl, by omega⟩
        case round =>
          obtain ⟨k, rfl, hk⟩ := hrel
          by_cases d : k < 1
          · have o1 : (k : Int) < (1 : Int) := by omega
            go_wp2
            exact ⟨⟨k + 1, by go_num, by omega⟩, by simp [intOf]; omega⟩
          · have o1 : ¬ (k : Int) < (1 : Int) := by omega
            go_wp2
            refine ⟨⟨j + 1, x + 1, y, xs, by go_num, by go_num, rfl, by omega, by omega, by omega, S.out, Z5.out, ?_⟩, by simp [intOf]; omega⟩
            have f := F5.out
            rw [HZ.out] at f
            exact f
      have m2 : ((s[j].toNat : Int) == 98) = false := by simp; omega
      by_cases q111 : bt s j = 111
      · have m3 : ((s[j].toNat : Int) == 111) = true := by simp; omega
        have Q := hide' q111
        clear q98 q111 hbK
        by_cases hc : H ≤ y ∨ W < x + 1
        · have RE := hide' (show runsS s = .inr (j, 1) by
            rw [← HF.out, tagsF_bad hli (by rw [HSK.out]; exact tag1_cells_bad HB.out (by rw [HTK.out]; exact hKl) (by rw [HTK.out]; exact Or.inr Q.out) (by rw [HTN.out]; exact hc))]; rfl)
          by_cases hy : H ≤ y
          · have m5 : (H : Int) ≤ (y : Int) := by omega
            clear hc
            go_wp2
            refine bodyPost_ret (v := .tuple #[.agg #[.int .i64 0, .int .i64 0, .slice none 0 0], .int .i64 ((j : Nat) : Int), .int .i64 1]) (by simp [results, Tryd.results40, go_sem, y0, y1, y2]) rfl ?_
            exact ⟨fin_below (B.out) _ _ _, Or.inr ⟨j, 1, RE.out, by omega, rfl⟩⟩
          · have m5 : ¬ (H : Int) ≤ (y : Int) := by omega
            have m6 : (W : Int) < (x : Int) + (1 : Int) := by omega
            clear hc
            go_wp2
            refine bodyPost_ret (v := .tuple #[.agg #[.int .i64 0, .int .i64 0, .slice none 0 0], .int .i64 ((j : Nat) : Int), .int .i64 1]) (by simp [results, Tryd.results40, go_sem, y0, y1, y2]) rfl ?_
            exact ⟨fin_below (B.out) _ _ _, Or.inr ⟨j, 1, RE.out, by omega, rfl⟩⟩
        have m5 : ¬ (H : Int) ≤ (y : Int) := by omega
        have m6 : ¬ (W : Int) < (x : Int) + (1 : Int) := by omega
        have hyW : y * W + x + 1 ≤ W * H := by
          rw [Nat.mul_comm W H]
          have := Nat.mul_le_mul_right W (show y + 1 ≤ H by omega)
          rw [Nat.add_mul] at this
          omega
        have F5 := hide' (show fin2 W H (tagsF s W H (s.size + 1 - (j + 1)) (j + 1) (x + 1) y (setRun xs (y * W + x) 1 1)) = runsS s by
          rw [← HF.out, tagsF_on hli (by rw [HSK.out]; exact tag1_cells_on 1 HB.out (by rw [HTK.out]; exact hKl) (by rw [HTK.out]; exact Or.inr Q.out) (by rw [HTK.out, Q.out]; simp) (by rw [HTN.out]; exact hc)), HTK.out, HTN.out])
        clear hc
        obtain ⟨Y, hY⟩ : ∃ Y, y * W = Y := ⟨_, rfl⟩
        obtain ⟨N, hN⟩ : ∃ N, W * H = N := ⟨_, rfl⟩
        have hYi : (y : Int) * (W : Int) = (Y : Int) := by rw [← hY]; simp
        have HYY := hide' hY
        have HNN := hide' hN
        have hN4 : N ≤ 10000 := by rw [← hN]; exact Nat.mul_le_mul lW lH
        rw [hY, hN] at hyW
        have Z5 := hide' (show zeros (setRun xs (y * W + x) 1 1) (y * W + (x + 1)) by
          have := setRun_zeros (xs := xs) (p := y * W + x) 1 1 (zeros_mono ZE.out (by omega))
          rw [Nat.add_assoc] at this
          exact this)
        clear hY hN
        go_wp2
        go_loopw [18] (fun kv wx => ∃ k : Nat, kv = .int .i64 (k : Int) ∧ k ≤ 1 ∧ RS w wx P W H (setRun xs (y * W + x) k 1)) (fun kv _ => 1 - (intOf kv).toNat)
        case atStart => exact ⟨0, rfl, by omega, S.out⟩
        case round =>
          obtain ⟨k, rfl, hk, rs⟩ := hrel
          have RR := hide' rs
          have d2 := rs.p2
          rw [HNN.out] at d2
          obtain ⟨y0, y1, y2, g0, g1, g2⟩ := rs.res
          clear rs
          by_cases d : k < 1
          · have o1 : (k : Int) < (1 : Int) := by omega
            have hpl : Y + x + k < (setRun xs (y * W + x) k 1).length := by rw [setRun_length, S.out.len, HNN.out]; omega
            have hv := RR.out.cel.cells (Y + x + k) hpl
            have hf := RR.out.cel.fz (Y + x + k)
            have HPL := hide' hpl
            have hlt : Y + x + k < N := by omega
            clear hpl
            go_wp2
            refine ⟨⟨k + 1, by go_num, by omega, ?_⟩, by simp [intOf]; omega⟩
            have := RR.out.set (Y + x + k) 1 HPL.out
            rw [setRun, HYY.out]
            rw [HYY.out] at this
            exact this
          · have o1 : ¬ (k : Int) < (1 : Int) := by omega
            have hkn : k = 1 := by omega
            have KN := hide' hkn
            clear hkn
            go_wp2
            refine ⟨⟨j + 1, x + 1, y, setRun xs (y * W + x) 1 1, by go_num, by go_num, rfl, by omega, by omega, by omega, ?_, Z5.out, F5.out⟩, by simp [intOf]; omega⟩
            have := RR.out
            rw [KN.out] at this
            exact this
      have m3 : ((s[j].toNat : Int) == 111) = false := by simp; omega
      by_cases q36 : bt s j = 36
      · have m4 : ((s[j].toNat : Int) == 36) = true := by simp; omega
        have Q := hide' q36
        clear q98 q111 q36 hbK
        by_cases hc : H ≤ y + 1
        · have m5 : (H : Int) ≤ (y : Int) + (1 : Int) := by omega
          have RE := hide' (show runsS s = .inr (j, 1) by
            rw [← HF.out, tagsF_bad hli (by rw [HSK.out]; exact tag1_rows_bad HB.out (by rw [HTK.out]; exact hKl) (by rw [HTK.out]; exact Q.out) (by rw [HTN.out]; exact hc))]; rfl)
          go_wp2
          refine bodyPost_ret (v := .tuple #[.agg #[.int .i64 0, .int .i64 0, .slice none 0 0], .int .i64 ((j : Nat) : Int), .int .i64 1]) (by simp [results, Tryd.results40, go_sem, y0, y1, y2]) rfl ?_
          exact ⟨fin_below (B.out) _ _ _, Or.inr ⟨j, 1, RE.out, by omega, rfl⟩⟩
        · have m5 : ¬ (H : Int) ≤ (y : Int) + (1 : Int) := by omega
          have F5 := hide' (show fin2 W H (tagsF s W H (s.size + 1 - (j + 1)) (j + 1) 0 (y + 1) xs) = runsS s by
            rw [← HF.out, tagsF_on hli (by rw [HSK.out]; exact tag1_rows_on HB.out (by rw [HTK.out]; exact hKl) (by rw [HTK.out]; exact Q.out) (by rw [HTN.out]; exact hc)), HTK.out, HTN.out])
          have Z5 := hide' (show zeros xs ((y + 1) * W + 0) from zeros_mono ZE.out (by rw [Nat.add_mul]; have := Nat.mul_le_mul_right W (show 1 ≤ 1 by omega); omega))
          go_wp2
          refine ⟨⟨j + 1, 0, y + 1, xs, by go_num, rfl, by go_num, by omega, by omega, by omega, S.out, Z5.out, F5.out⟩, ?_⟩
          simp [intOf]; omega
      have m4 : ((s[j].toNat : Int) == 36) = false := by simp; omega
      by_cases q33 : bt s j = 33
      · have m5 : ((s[j].toNat : Int) == 33) = true := by simp; omega
        have Q := hide' q33
        clear q98 q111 q36 q33 hbK
        by_cases hc : j = j
        · have T := hide' (fin_end (x := x) (y := y) (xs := xs) (W := W) (H := H) hli (by rw [HSK.out]; exact tag1_end HB.out (by rw [HTK.out]; exact hKl) (by rw [HTK.out]; exact Q.out) HTK.out))
          clear hc
          go_wp2
          go_loop [19] (fun kv => ∃ k : Nat, kv = .int .i64 (k : Int) ∧ j + 1 ≤ k ∧ k ≤ s.size ∧ sk s k = sk s (j + 1)) (fun kv => s.size - (intOf kv).toNat)
          case atStart => exact ⟨j + 1, by go_num, by omega, by omega, rfl⟩
          case round =>
            obtain ⟨k, rfl, hk1, hk2, hsk⟩ := hrel
            have HSK2 := hide' hsk
            clear hsk
            by_cases d : k < s.size
            · have o1 : (k : Int) < (s.size : Int) := by omega
              have hbk := bt_lt s k d
              by_cases b32 : bt s k = 32
              · have o2 : ((s[k].toNat : Int) != 32) = false := by simp; omega
                have HB2 := hide' (sk_step (blankAt_true.2 ⟨d, Or.inl b32⟩))
                clear b32 hbk
                go_wp2
                exact ⟨⟨k + 1, by go_num, by omega, by omega, HB2.out.symm.trans HSK2.out⟩, by simp [intOf]; omega⟩
              · have o2 : ((s[k].toNat : Int) != 32) = true := by simp; omega
                by_cases b10 : bt s k = 10
                · have o3 : ((s[k].toNat : Int) != 10) = false := by simp; omega
                  have HB2 := hide' (sk_step (blankAt_true.2 ⟨d, Or.inr b10⟩))
                  clear b32 b10 hbk
                  go_wp2
                  exact ⟨⟨k + 1, by go_num, by omega, by omega, HB2.out.symm.trans HSK2.out⟩, by simp [intOf]; omega⟩
                · have o3 : ((s[k].toNat : Int) != 10) = true := by simp; omega
                  have HB2 := hide' (sk_stop (s := s) (i := k) (blankAt_false.2 (by omega)))
                  have RE := hide' (show runsS s = .inr (k, 2) by
                    rw [← HF.out, T.out]
                    unfold fin3
                    rw [HSK.out, HTK.out, ← HSK2.out, HB2.out, if_neg (by omega)])
                  clear b32 b10 hbk
                  go_wp2
                  refine bodyPost_ret (v := .tuple #[.agg #[.int .i64 0, .int .i64 0, .slice none 0 0], .int .i64 ((k : Nat) : Int), .int .i64 2]) (by simp [results, Tryd.results40, go_sem, y0, y1, y2]) rfl ?_
                  exact ⟨fin_below (B.out) _ _ _, Or.inr ⟨k, 2, RE.out, by omega, rfl⟩⟩
            · have o1 : ¬ (k : Int) < (s.size : Int) := by omega
              have HB2 := hide' (sk_stop (s := s) (i := k) (blankAt_false.2 (by omega)))
              have RE := hide' (show runsS s = .inl (W, H, xs) by
                rw [← HF.out, T.out]
                unfold fin3
                rw [HSK.out, HTK.out, ← HSK2.out, HB2.out, if_pos (by omega)])
              go_wp2
              refine bodyPost_ret (v := .tuple #[.agg #[.int .i64 (W : Int), .int .i64 (H : Int), .slice (some ⟨P + 1, 0, none⟩) (W * H) (W * H)], .int .i64 0, .int .i64 0]) (by simp [results, Tryd.results40, go_sem, y0, y1, y2]) rfl ?_
              exact ⟨fin_below B.out _ _ _, Or.inl ⟨W, H, xs, P + 1, RE.out, rfl, fin_cel S.out.cel (by have := S.out.hP; omega) _ _ _, S.out.len, lW, lH⟩⟩
        · exact absurd rfl hc
      have m5 : ((s[j].toNat : Int) == 33) = false := by simp; omega
      have RE := hide' (show runsS s = .inr (j, 2) by
        rw [← HF.out, tagsF_bad hli (by rw [HSK.out]; exact tag1_none HB.out (by rw [HTK.out]; exact q98) (by rw [HTK.out]; exact q111) (by rw [HTK.out]; exact q36) (by rw [HTK.out]; exact q33)), HTK.out]; rfl)
      clear q98 q111 q36 q33 hbK
      go_wp2
      refine bodyPost_ret (v := .tuple #[.agg #[.int .i64 0, .int .i64 0, .slice none 0 0], .int .i64 ((j : Nat) : Int), .int .i64 2]) (by simp [results, Tryd.results40, go_sem, y0, y1, y2]) rfl ?_
      exact ⟨fin_below (B.out) _ _ _, Or.inr ⟨j, 2, RE.out, by omega, rfl⟩⟩
end Go.Proofs.YtjngjnkecnnmeaaDoor

