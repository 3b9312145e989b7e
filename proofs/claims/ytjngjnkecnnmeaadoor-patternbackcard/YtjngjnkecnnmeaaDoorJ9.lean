/-
  What the last text of this claim leans on, part 9: Qa3, Qb0, Qb1, Da5, Bd1, Bd2, LawK, LawL1.
-/
import Derived.Test.YtjngjnkecnnmeaaDoorJ2
import Derived.Test.YtjngjnkecnnmeaaDoorJ3
import Derived.Test.YtjngjnkecnnmeaaDoorJ8
import Derived.Test.YtjngjnkecnnmeaaDoorJ7
namespace Go.Proofs.YtjngjnkecnnmeaaDoor
open Go.RowKit
set_option linter.unusedVariables false

set_option maxRecDepth 100000 in
set_option maxHeartbeats 6400000 in
theorem refParseRuns (s : ByteArray) (w : World) (hs : s.size ≤ 40000) :
    Calls Tryd.prog 40 #[.string s] w (RefRuns s w) := by
  have n1 : ¬ (40000 : Int) < (s.size : Int) := by omega
  have hsm : s.size ≤ maxLen := by unfold maxLen; omega
  go_enter Tryd.func40, Tryd.ntmps40
  go_wp2_with fail
  refine (sides_any s _ hs).mono ?_
  rintro e w1 ⟨b1, (⟨W, H, k, hh, rfl, lk, lW, lH⟩ | ⟨k, f, hh, hf1, rfl⟩)⟩
  rotate_left
  · have nf : ((f : Int) != 0) = true := by simp; omega
    have RE := hide' (show runsS s = .inr (k, f) by unfold runsS; rw [if_neg (by omega), hh])
    have r0 := (res_new w 51).block (w' := (w.alloc (.cells #[.int .i64 0, .int .i64 0, .slice none 0 0] 51)).alloc (.cells #[.int .i64 0, .int .i64 0, .slice none 0 0] 51)) (Below.heap_alloc _ _ _ (by simp))
    have r1 := res_new (w.alloc (.cells #[.int .i64 0, .int .i64 0, .slice none 0 0] 51)) 51
    rw [show (w.alloc (.cells #[.int .i64 0, .int .i64 0, .slice none 0 0] 51)).heap.size = w.heap.size + 1 by simp] at r1
    obtain ⟨y0, y1, y2, g0, g1, g2⟩ := r0.block (b1.block _ (by simp; omega))
    obtain ⟨t0, t1, t2, -, -, -⟩ := r1.block (b1.block _ (by simp))
    have B := hide' (show Below w.heap.size w w1 from (((Below.refl _ _).alloc (Nat.le_refl _) _).alloc (by simp) _).trans (b1.mono (by simp; omega)))
    clear hh r0 r1 b1
    go_wp2
    refine bodyPost_ret (v := .tuple #[.agg #[.int .i64 0, .int .i64 0, .slice none 0 0], .int .i64 (k : Int), .int .i64 (f : Int)]) (by simp [results, Tryd.results40, go_sem, y0, y1, y2]) rfl ?_
    exact ⟨fin_below (B.out) _ _ _, Or.inr ⟨k, f, RE.out, hf1, rfl⟩⟩
  have nf : ((0 : Int) != 0) = false := by simp
  obtain ⟨N, hN⟩ : ∃ N, W * H = N := ⟨_, rfl⟩
  have hNi : (W : Int) * (H : Int) = (N : Int) := by rw [← hN]; simp
  have hN4 : N ≤ 10000 := by rw [← hN]; exact Nat.mul_le_mul lW lH
  have hmk := run_make_row' (P := Tryd.prog) 22 3 (.int .i64 0) 8 Tryd.underlying22 info_int rfl .i64 .i64 N (by omega) (by omega)
  have HF0 := hide' (show fin2 W H (tagsF s W H (s.size + 1 - k) k 0 0 (List.replicate N 0)) = runsS s by
    rw [← hN]
    unfold runsS
    rw [if_neg (by omega), hh]
    dsimp only
    cases tagsF s W H (s.size + 1 - k) k 0 0 (List.replicate (W * H) 0) <;> rfl)
  have S0 := hide' (RS.start (w := w) (w1 := w1) (W := W) (H := H) 51 51 51 3 lW lH (b1.mono (by simp)) N hN)
  clear hh b1 hN
  obtain ⟨P, hP⟩ : ∃ P, w1.heap.size = P := ⟨_, rfl⟩
  go_wp2
  rw [hP] at S0
  go_loopw [8, 11, 12] (fun iv xv yv wr => ∃ (i x y : Nat) (xs : List Int), iv = .int .i64 (i : Int) ∧ xv = .int .i64 (x : Int) ∧ yv = .int .i64 (y : Int) ∧ i ≤ s.size ∧ x ≤ W ∧ y ≤ H ∧ RS w wr P W H xs ∧ zeros xs (y * W + x) ∧ fin2 W H (tagsF s W H (s.size + 1 - i) i x y xs) = runsS s) (fun iv _ _ _ => s.size - (intOf iv).toNat)
  case atStart => exact ⟨k, 0, 0, List.replicate N 0, rfl, rfl, rfl, lk, by omega, by omega, S0.out, zeros_replicate _ _, HF0.out⟩
  case round =>
    obtain ⟨i, x, y, xs, rfl, rfl, rfl, hli, hxw, hyh, rs, hz, hF⟩ := hrel
    have S := hide' rs
    have ZE := hide' hz
    have HF := hide' hF
    have B := hide' rs.below
    obtain ⟨y0, y1, y2, g0, g1, g2⟩ := rs.res
    obtain ⟨t0, t1, t2, -, -, -⟩ := rs.non
    have p0 := rs.p0
    have p1 := rs.p1
    have p2 := rs.p2
    clear rs hz hF hmk HF0 S0 hNi hP
    go_wp2
    go_loop [8] (fun jv => ∃ j : Nat, jv = .int .i64 (j : Int) ∧ i ≤ j ∧ j ≤ s.size ∧ sk s j = sk s i) (fun jv => s.size - (intOf jv).toNat)
    case atStart => exact ⟨i, rfl, by omega, hli, rfl⟩
    case round =>
      obtain ⟨j, rfl, hij, hjs, hsk⟩ := hrel
      by_cases d : s.size ≤ j
      · have o1 : ¬ (j : Int) < (s.size : Int) := by omega
        have o2 : (s.size : Int) ≤ (j : Int) := by omega
        have HSK := hide' (show sk s i = j by rw [← hsk]; exact sk_stop (blankAt_false.2 (by omega)))
        have hd0 : inR s j 48 57 = false := inR_false.2 (by omega)
        have RE := hide' (show runsS s = .inr (j, 2) by
          rw [← HF.out, tagsF_bad hli (by rw [HSK.out]; exact tag1_none (by unfold tagBad dAt; rw [hd0]; simp) (by unfold tagK dAt; rw [hd0]; simp [bt, show ¬ j < s.size by omega]) (by unfold tagK dAt; rw [hd0]; simp [bt, show ¬ j < s.size by omega]) (by unfold tagK dAt; rw [hd0]; simp [bt, show ¬ j < s.size by omega]) (by unfold tagK dAt; rw [hd0]; simp [bt, show ¬ j < s.size by omega]))]
          unfold tagK dAt; rw [hd0]; rfl)
        clear hsk d hd0
        go_wp2
        refine bodyPost_ret (v := .tuple #[.agg #[.int .i64 0, .int .i64 0, .slice none 0 0], .int .i64 ((j : Nat) : Int), .int .i64 2]) (by simp [results, Tryd.results40, go_sem, y0, y1, y2]) rfl ?_
        exact ⟨fin_below (B.out) _ _ _, Or.inr ⟨j, 2, RE.out, by omega, rfl⟩⟩
      have o1 : (j : Int) < (s.size : Int) := by omega
      have hjl : j < s.size := by omega
      have hbj := bt_lt s j hjl
      clear d
      by_cases b32 : bt s j = 32
      · have o2 : ((s[j].toNat : Int) == 32) = true := by simp; omega
        have HB2 := hide' ((sk_step (blankAt_true.2 ⟨hjl, Or.inl b32⟩)).symm.trans hsk)
        clear b32 hbj hsk
        go_wp2
        exact ⟨⟨j + 1, by go_num, by omega, by omega, HB2.out⟩, by simp [intOf]; omega⟩
      have o2 : ((s[j].toNat : Int) == 32) = false := by simp; omega
      by_cases b10 : bt s j = 10
      · have o3 : ((s[j].toNat : Int) == 10) = true := by simp; omega
        have HB2 := hide' ((sk_step (blankAt_true.2 ⟨hjl, Or.inr b10⟩)).symm.trans hsk)
        clear b32 b10 hbj hsk
        go_wp2
        exact ⟨⟨j + 1, by go_num, by omega, by omega, HB2.out⟩, by simp [intOf]; omega⟩
      have o3 : ((s[j].toNat : Int) == 10) = false := by simp; omega
      have HSK := hide' (show sk s i = j by rw [← hsk]; exact sk_stop (blankAt_false.2 (by omega)))
      clear hsk b32 b10
      by_cases c48 : 48 ≤ bt s j
      · have o4 : (48 : Int) ≤ (s[j].toNat : Int) := by omega
        by_cases c57 : bt s j ≤ 57
        · have o5 : (s[j].toNat : Int) ≤ 57 := by omega
          have D := hide' (show inR s j 48 57 = true from inR_true.2 ⟨hjl, by omega, by omega⟩)
          clear hbj c48 c57
          go_wp2_with fail
          refine (Number_any s j _ _ rfl hsm hjs).mono ?_
          rintro e w3 ⟨N, rfl, hN, rfl⟩
          have hcap := hN.hi
          have hgt := num_gt D.out
          rcases six_of hN with ⟨b1, b2⟩ | ⟨b1, b2, b3⟩ | ⟨b1, b2, b3, b4⟩
          · have RE := hide' (show runsS s = .inr (j, 2) by rw [← HF.out, tagsF_bad hli (by rw [HSK.out]; exact tag1_bad (by unfold tagBad dAt; rw [D.out, b2]; simp))]; rfl)
            have m0 : N < 2 := by omega
            clear hN b2
            go_wp2
            refine bodyPost_ret (v := .tuple #[.agg #[.int .i64 0, .int .i64 0, .slice none 0 0], .int .i64 ((j : Nat) : Int), .int .i64 2]) (by simp [results, Tryd.results40, go_sem, y0, y1, y2]) rfl ?_
            exact ⟨fin_below (B.out) _ _ _, Or.inr ⟨j, 2, RE.out, by omega, rfl⟩⟩
          · have RE := hide' (show runsS s = .inr (j, 2) by rw [← HF.out, tagsF_bad hli (by rw [HSK.out]; exact tag1_bad (by unfold tagBad dAt; rw [D.out, b3]; simp))]; rfl)
            clear hN b3
            by_cases m0 : N < 2
            · go_wp2
              refine bodyPost_ret (v := .tuple #[.agg #[.int .i64 0, .int .i64 0, .slice none 0 0], .int .i64 ((j : Nat) : Int), .int .i64 2]) (by simp [results, Tryd.results40, go_sem, y0, y1, y2]) rfl ?_
              exact ⟨fin_below (B.out) _ _ _, Or.inr ⟨j, 2, RE.out, by omega, rfl⟩⟩
            · go_wp2
              refine bodyPost_ret (v := .tuple #[.agg #[.int .i64 0, .int .i64 0, .slice none 0 0], .int .i64 ((j : Nat) : Int), .int .i64 2]) (by simp [results, Tryd.results40, go_sem, y0, y1, y2]) rfl ?_
              exact ⟨fin_below (B.out) _ _ _, Or.inr ⟨j, 2, RE.out, by omega, rfl⟩⟩
          · obtain ⟨M, hM⟩ : ∃ M, (num s j).1 = M := ⟨_, rfl⟩
            rw [hM] at b4
            subst b4
            have hKs : (num s j).2 ≤ s.size := num_size s j hjs
            by_cases g : M < 2
            · have m0 : (M : Int) < 2 := by omega
              have RE := hide' (show runsS s = .inr (j, 2) by rw [← HF.out, tagsF_bad hli (by rw [HSK.out]; exact tag1_bad (by unfold tagBad dAt; rw [D.out, b3, hM]; simp; omega))]; rfl)
              clear hN b3 hM g
              go_wp2
              refine bodyPost_ret (v := .tuple #[.agg #[.int .i64 0, .int .i64 0, .slice none 0 0], .int .i64 ((j : Nat) : Int), .int .i64 2]) (by simp [results, Tryd.results40, go_sem, y0, y1, y2]) rfl ?_
              exact ⟨fin_below (B.out) _ _ _, Or.inr ⟨j, 2, RE.out, by omega, rfl⟩⟩
            have m0 : ¬ (M : Int) < 2 := by omega
            have HTN := hide' (show tagN s j = M by unfold tagN dAt; rw [D.out, ← hM]; rfl)
            have HTK := hide' (show tagK s j = (num s j).2 by unfold tagK dAt; rw [D.out]; rfl)
            have HB := hide' (show tagBad s j = false by unfold tagBad dAt; rw [D.out, b3, hM]; simp; omega)
            clear hN b3 hM
            by_cases eK : s.size ≤ (num s j).2
            · have m1 : (s.size : Int) ≤ ((num s j).2 : Int) := by omega
              have RE := hide' (show runsS s = .inr ((num s j).2, 2) by
                rw [← HF.out, tagsF_bad hli (by rw [HSK.out]; exact tag1_none HB.out (by rw [HTK.out]; simp [bt, show ¬ (num s j).2 < s.size by omega]) (by rw [HTK.out]; simp [bt, show ¬ (num s j).2 < s.size by omega]) (by rw [HTK.out]; simp [bt, show ¬ (num s j).2 < s.size by omega]) (by rw [HTK.out]; simp [bt, show ¬ (num s j).2 < s.size by omega])), HTK.out]; rfl)
              clear eK
              go_wp2
              refine bodyPost_ret (v := .tuple #[.agg #[.int .i64 0, .int .i64 0, .slice none 0 0], .int .i64 (((num s j).2 : Nat) : Int), .int .i64 2]) (by simp [results, Tryd.results40, go_sem, y0, y1, y2]) rfl ?_
              exact ⟨fin_below (B.out) _ _ _, Or.inr ⟨(num s j).2, 2, RE.out, by omega, rfl⟩⟩
            have m1 : ¬ (s.size : Int) ≤ ((num s j).2 : Int) := by omega
            have hKl : (num s j).2 < s.size := by omega
            have hbK := bt_lt s (num s j).2 hKl
            clear eK
            by_cases q98 : bt s (num s j).2 = 98
            · have m2 : ((s[(num s j).2].toNat : Int) == 98) = true := by simp; omega
              have m7 : ((s[(num s j).2].toNat : Int) == 111) = false := by simp; omega
              have Q := hide' q98
              clear q98 hbK
              by_cases hc : H ≤ y ∨ W < x + M
              · have RE := hide' (show runsS s = .inr (j, 1) by
                  rw [← HF.out, tagsF_bad hli (by rw [HSK.out]; exact tag1_cells_bad HB.out (by rw [HTK.out]; exact hKl) (by rw [HTK.out]; exact Or.inl Q.out) (by rw [HTN.out]; exact hc))]; rfl)
                by_cases hy : H ≤ y
                · have m5 : (H : Int) ≤ (y : Int) := by omega
                  clear hc
                  go_wp2
                  refine bodyPost_ret (v := .tuple #[.agg #[.int .i64 0, .int .i64 0, .slice none 0 0], .int .i64 ((j : Nat) : Int), .int .i64 1]) (by simp [results, Tryd.results40, go_sem, y0, y1, y2]) rfl ?_
                  exact ⟨fin_below (B.out) _ _ _, Or.inr ⟨j, 1, RE.out, by omega, rfl⟩⟩
                · have m5 : ¬ (H : Int) ≤ (y : Int) := by omega
                  have m6 : (W : Int) < (x : Int) + (M : Int) := by omega
                  clear hc
                  go_wp2
                  refine bodyPost_ret (v := .tuple #[.agg #[.int .i64 0, .int .i64 0, .slice none 0 0], .int .i64 ((j : Nat) : Int), .int .i64 1]) (by simp [results, Tryd.results40, go_sem, y0, y1, y2]) rfl ?_
                  exact ⟨fin_below (B.out) _ _ _, Or.inr ⟨j, 1, RE.out, by omega, rfl⟩⟩
              have m5 : ¬ (H : Int) ≤ (y : Int) := by omega
              have m6 : ¬ (W : Int) < (x : Int) + (M : Int) := by omega
              have hyW : y * W + x + M ≤ W * H := by
                rw [Nat.mul_comm W H]
                have := Nat.mul_le_mul_right W (show y + 1 ≤ H by omega)
                rw [Nat.add_mul] at this
                omega
              have F5 := hide' (show fin2 W H (tagsF s W H (s.size + 1 - ((num s j).2 + 1)) ((num s j).2 + 1) (x + M) y (setRun xs (y * W + x) M 0)) = runsS s by
                rw [← HF.out, tagsF_on hli (by rw [HSK.out]; exact tag1_cells_on 0 HB.out (by rw [HTK.out]; exact hKl) (by rw [HTK.out]; exact Or.inl Q.out) (by rw [HTK.out, Q.out]; simp) (by rw [HTN.out]; exact hc)), HTK.out, HTN.out])
              clear hc
              have HZ := hide' (setRun_zero ZE.out M)
              have Z5 := hide' (show zeros xs (y * W + (x + M)) from zeros_mono ZE.out (by omega))
              go_wp2
              go_loop [18] (fun kv => ∃ k : Nat, kv = .int .i64 (k : Int) ∧ k ≤ M) (fun kv => M - (intOf kv).toNat)
              case atStart => exact ⟨0, rfl, by omega⟩
              case round =>
                obtain ⟨k, rfl, hk⟩ := hrel
                by_cases d : k < M
                · have o1 : (k : Int) < (M : Int) := by omega
                  go_wp2
                  exact ⟨⟨k + 1, by go_num, by omega⟩, by simp [intOf]; omega⟩
                · have o1 : ¬ (k : Int) < (M : Int) := by omega
                  go_wp2
                  refine ⟨⟨(num s j).2 + 1, x + M, y, xs, by go_num, by go_num, rfl, by omega, by omega, by omega, S.out, Z5.out, ?_⟩, by simp [intOf]; omega⟩
                  have f := F5.out
                  rw [HZ.out] at f
                  exact f
            have m2 : ((s[(num s j).2].toNat : Int) == 98) = false := by simp; omega
            by_cases q111 : bt s (num s j).2 = 111
            · have m3 : ((s[(num s j).2].toNat : Int) == 111) = true := by simp; omega
              have Q := hide' q111
              clear q98 q111 hbK
              by_cases hc : H ≤ y ∨ W < x + M
              · have RE := hide' (show runsS s = .inr (j, 1) by
                  rw [← HF.out, tagsF_bad hli (by rw [HSK.out]; exact tag1_cells_bad HB.out (by rw [HTK.out]; exact hKl) (by rw [HTK.out]; exact Or.inr Q.out) (by rw [HTN.out]; exact hc))]; rfl)
                by_cases hy : H ≤ y
                · have m5 : (H : Int) ≤ (y : Int) := by omega
                  clear hc
                  go_wp2
                  refine bodyPost_ret (v := .tuple #[.agg #[.int .i64 0, .int .i64 0, .slice none 0 0], .int .i64 ((j : Nat) : Int), .int .i64 1]) (by simp [results, Tryd.results40, go_sem, y0, y1, y2]) rfl ?_
                  exact ⟨fin_below (B.out) _ _ _, Or.inr ⟨j, 1, RE.out, by omega, rfl⟩⟩
                · have m5 : ¬ (H : Int) ≤ (y : Int) := by omega
                  have m6 : (W : Int) < (x : Int) + (M : Int) := by omega
                  clear hc
                  go_wp2
                  refine bodyPost_ret (v := .tuple #[.agg #[.int .i64 0, .int .i64 0, .slice none 0 0], .int .i64 ((j : Nat) : Int), .int .i64 1]) (by simp [results, Tryd.results40, go_sem, y0, y1, y2]) rfl ?_
                  exact ⟨fin_below (B.out) _ _ _, Or.inr ⟨j, 1, RE.out, by omega, rfl⟩⟩
              have m5 : ¬ (H : Int) ≤ (y : Int) := by omega
              have m6 : ¬ (W : Int) < (x : Int) + (M : Int) := by omega
              have hyW : y * W + x + M ≤ W * H := by
                rw [Nat.mul_comm W H]
                have := Nat.mul_le_mul_right W (show y + 1 ≤ H by omega)
                rw [Nat.add_mul] at this
                omega
              have F5 := hide' (show fin2 W H (tagsF s W H (s.size + 1 - ((num s j).2 + 1)) ((num s j).2 + 1) (x + M) y (setRun xs (y * W + x) M 1)) = runsS s by
                rw [← HF.out, tagsF_on hli (by rw [HSK.out]; exact tag1_cells_on 1 HB.out (by rw [HTK.out]; exact hKl) (by rw [HTK.out]; exact Or.inr Q.out) (by rw [HTK.out, Q.out]; simp) (by rw [HTN.out]; exact hc)), HTK.out, HTN.out])
              clear hc
              obtain ⟨Y, hY⟩ : ∃ Y, y * W = Y := ⟨_, rfl⟩
              obtain ⟨N, hN⟩ : ∃ N, W * H = N := ⟨_, rfl⟩
              have hYi : (y : Int) * (W : Int) = (Y : Int) := by rw [← hY]; simp
              have HYY := hide' hY
              have HNN := hide' hN
              have hN4 : N ≤ 10000 := by rw [← hN]; exact Nat.mul_le_mul lW lH
              rw [hY, hN] at hyW
              have Z5 := hide' (show zeros (setRun xs (y * W + x) M 1) (y * W + (x + M)) by
                have := setRun_zeros (xs := xs) (p := y * W + x) 1 M (zeros_mono ZE.out (by omega))
                rw [Nat.add_assoc] at this
                exact this)
              clear hY hN
              go_wp2
              go_loopw [18] (fun kv wx => ∃ k : Nat, kv = .int .i64 (k : Int) ∧ k ≤ M ∧ RS w wx P W H (setRun xs (y * W + x) k 1)) (fun kv _ => M - (intOf kv).toNat)
              case atStart => exact ⟨0, rfl, by omega, S.out⟩
              case round =>
                obtain ⟨k, rfl, hk, rs⟩ := hrel
                have RR := hide' rs
                have d2 := rs.p2
                rw [HNN.out] at d2
                obtain ⟨y0, y1, y2, g0, g1, g2⟩ := rs.res
                clear rs
                by_cases d : k < M
                · have o1 : (k : Int) < (M : Int) := by omega
                  have hpl : Y + x + k < (setRun xs (y * W + x) k 1).length := by rw [setRun_length, S.out.len, HNN.out]; omega
                  have hv := RR.out.cel.cells (Y + x + k) hpl
                  have hf := RR.out.cel.fz (Y + x + k)
                  have HPL := hide' hpl
                  have hlt : Y + x + k < N := by omega
                  clear hpl
                  go_wp2
                  refine ⟨⟨k + 1, by go_num, by omega, ?_⟩, by simp [intOf]; omega⟩
                  have := RR.out.set (Y + x + k) 1 HPL.out
                  rw [setRun, HYY.out]
                  rw [HYY.out] at this
                  exact this
                · have o1 : ¬ (k : Int) < (M : Int) := by omega
                  have hkn : k = M := by omega
                  have KN := hide' hkn
                  clear hkn
                  go_wp2
                  refine ⟨⟨(num s j).2 + 1, x + M, y, setRun xs (y * W + x) M 1, by go_num, by go_num, rfl, by omega, by omega, by omega, ?_, Z5.out, F5.out⟩, by simp [intOf]; omega⟩
                  have := RR.out
                  rw [KN.out] at this
                  exact this
            have m3 : ((s[(num s j).2].toNat : Int) == 111) = false := by simp; omega
            by_cases q36 : bt s (num s j).2 = 36
            · have m4 : ((s[(num s j).2].toNat : Int) == 36) = true := by simp; omega
              have Q := hide' q36
              clear q98 q111 q36 hbK
              by_cases hc : H ≤ y + M
              · have m5 : (H : Int) ≤ (y : Int) + (M : Int) := by omega
                have RE := hide' (show runsS s = .inr (j, 1) by
                  rw [← HF.out, tagsF_bad hli (by rw [HSK.out]; exact tag1_rows_bad HB.out (by rw [HTK.out]; exact hKl) (by rw [HTK.out]; exact Q.out) (by rw [HTN.out]; exact hc))]; rfl)
                go_wp2
                refine bodyPost_ret (v := .tuple #[.agg #[.int .i64 0, .int .i64 0, .slice none 0 0], .int .i64 ((j : Nat) : Int), .int .i64 1]) (by simp [results, Tryd.results40, go_sem, y0, y1, y2]) rfl ?_
                exact ⟨fin_below (B.out) _ _ _, Or.inr ⟨j, 1, RE.out, by omega, rfl⟩⟩
              · have m5 : ¬ (H : Int) ≤ (y : Int) + (M : Int) := by omega
                have F5 := hide' (show fin2 W H (tagsF s W H (s.size + 1 - ((num s j).2 + 1)) ((num s j).2 + 1) 0 (y + M) xs) = runsS s by
                  rw [← HF.out, tagsF_on hli (by rw [HSK.out]; exact tag1_rows_on HB.out (by rw [HTK.out]; exact hKl) (by rw [HTK.out]; exact Q.out) (by rw [HTN.out]; exact hc)), HTK.out, HTN.out])
                have Z5 := hide' (show zeros xs ((y + M) * W + 0) from zeros_mono ZE.out (by rw [Nat.add_mul]; have := Nat.mul_le_mul_right W (show 1 ≤ M by omega); omega))
                go_wp2
                refine ⟨⟨(num s j).2 + 1, 0, y + M, xs, by go_num, rfl, by go_num, by omega, by omega, by omega, S.out, Z5.out, F5.out⟩, ?_⟩
                simp [intOf]; omega
            have m4 : ((s[(num s j).2].toNat : Int) == 36) = false := by simp; omega
            by_cases q33 : bt s (num s j).2 = 33
            · have m5 : ((s[(num s j).2].toNat : Int) == 33) = true := by simp; omega
              have Q := hide' q33
              clear q98 q111 q36 q33 hbK
              by_cases hc : (num s j).2 = j
              · exact absurd hc (by omega)
              · have m6 : ((j : Int) != ((num s j).2 : Int)) = true := by simp; omega
                have RE := hide' (show runsS s = .inr ((num s j).2, 2) by
                  rw [← HF.out, tagsF_bad hli (by rw [HSK.out]; exact tag1_end_bad HB.out (by rw [HTK.out]; exact hKl) (by rw [HTK.out]; exact Q.out) (by rw [HTK.out]; exact hc)), HTK.out]; rfl)
                go_wp2
                refine bodyPost_ret (v := .tuple #[.agg #[.int .i64 0, .int .i64 0, .slice none 0 0], .int .i64 (((num s j).2 : Nat) : Int), .int .i64 2]) (by simp [results, Tryd.results40, go_sem, y0, y1, y2]) rfl ?_
                exact ⟨fin_below (B.out) _ _ _, Or.inr ⟨(num s j).2, 2, RE.out, by omega, rfl⟩⟩
            have m5 : ((s[(num s j).2].toNat : Int) == 33) = false := by simp; omega
            have RE := hide' (show runsS s = .inr ((num s j).2, 2) by
              rw [← HF.out, tagsF_bad hli (by rw [HSK.out]; exact tag1_none HB.out (by rw [HTK.out]; exact q98) (by rw [HTK.out]; exact q111) (by rw [HTK.out]; exact q36) (by rw [HTK.out]; exact q33)), HTK.out]; rfl)
            clear q98 q111 q36 q33 hbK
            go_wp2
            refine bodyPost_ret (v := .tuple #[.agg #[.int .i64 0, .int .i64 0, .slice none 0 0], .int .i64 (((num s j).2 : Nat) : Int), .int .i64 2]) (by simp [results, Tryd.results40, go_sem, y0, y1, y2]) rfl ?_
            exact ⟨fin_below (B.out) _ _ _, Or.inr ⟨(num s j).2, 2, RE.out, by omega, rfl⟩⟩
        have o5 : ¬ (s[j].toNat : Int) ≤ 57 := by omega
        have D := hide' (show inR s j 48 57 = false from inR_false.2 (by omega))
        clear hbj c48 c57
        have HTN := hide' (show tagN s j = 1 by unfold tagN dAt; rw [D.out]; rfl)
        have HTK := hide' (show tagK s j = j by unfold tagK dAt; rw [D.out]; rfl)
        have HB := hide' (show tagBad s j = false by unfold tagBad dAt; rw [D.out]; rfl)
        by_cases eK : s.size ≤ j
        · exact absurd eK (by omega)
        have m1 : ¬ (s.size : Int) ≤ (j : Int) := by omega
        have hKl : j < s.size := by omega
        have hbK := bt_lt s j hKl
        clear eK
        by_cases q98 : bt s j = 98
        · have m2 : ((s[j].toNat : Int) == 98) = true := by simp; omega
          have m7 : ((s[j].toNat : Int) == 111) = false := by simp; omega
          have Q := hide' q98
          clear q98 hbK
          by_cases hc : H ≤ y ∨ W < x + 1
          · have RE := hide' (show runsS s = .inr (j, 1) by
              rw [← HF.out, tagsF_bad hli (by rw [HSK.out]; exact tag1_cells_bad HB.out (by rw [HTK.out]; exact hKl) (by rw [HTK.out]; exact Or.inl Q.out) (by rw [HTN.out]; exact hc))]; rfl)
            by_cases hy : H ≤ y
            · have m5 : (H : Int) ≤ (y : Int) := by omega
              clear hc
              go_wp2
              refine bodyPost_ret (v := .tuple #[.agg #[.int .i64 0, .int .i64 0, .slice none 0 0], .int .i64 ((j : Nat) : Int), .int .i64 1]) (by simp [results, Tryd.results40, go_sem, y0, y1, y2]) rfl ?_
              exact ⟨fin_below (B.out) _ _ _, Or.inr ⟨j, 1, RE.out, by omega, rfl⟩⟩
            · have m5 : ¬ (H : Int) ≤ (y : Int) := by omega
              have m6 : (W : Int) < (x : Int) + (1 : Int) := by omega
              clear hc
              go_wp2
              refine bodyPost_ret (v := .tuple #[.agg #[.int .i64 0, .int .i64 0, .slice none 0 0], .int .i64 ((j : Nat) : Int), .int .i64 1]) (by simp [results, Tryd.results40, go_sem, y0, y1, y2]) rfl ?_
              exact ⟨fin_below (B.out) _ _ _, Or.inr ⟨j, 1, RE.out, by omega, rfl⟩⟩
          have m5 : ¬ (H : Int) ≤ (y : Int) := by omega
          have m6 : ¬ (W : Int) < (x : Int) + (1 : Int) := by omega
          have hyW : y * W + x + 1 ≤ W * H := by
            rw [Nat.mul_comm W H]
            have := Nat.mul_le_mul_right W (show y + 1 ≤ H by omega)
            rw [Nat.add_mul] at this
            omega
          have F5 := hide' (show fin2 W H (tagsF s W H (s.size + 1 - (j + 1)) (j + 1) (x + 1) y (setRun xs (y * W + x) 1 0)) = runsS s by
            rw [← HF.out, tagsF_on hli (by rw [HSK.out]; exact tag1_cells_on 0 HB.out (by rw [HTK.out]; exact hKl) (by rw [HTK.out]; exact Or.inl Q.out) (by rw [HTK.out, Q.out]; simp) (by rw [HTN.out]; exact hc)), HTK.out, HTN.out])
          clear hc
          have HZ := hide' (setRun_zero ZE.out 1)
          have Z5 := hide' (show zeros xs (y * W + (x + 1)) from zeros_mono ZE.out (by omega))
          go_wp2
          go_loop [18] (fun kv => ∃ k : Nat, kv = .int .i64 (k : Int) ∧ k ≤ 1) (fun kv => 1 - (intOf kv).toNat)
          case atStart => exact ⟨0, rfl, by omega⟩
          case round =>
            obtain ⟨k, rfl, hk⟩ := hrel
            by_cases d : k < 1
            · have o1 : (k : Int) < (1 : Int) := by omega
              go_wp2
              exact ⟨⟨k + 1, by go_num, by omega⟩, by simp [intOf]; omega⟩
            · have o1 : ¬ (k : Int) < (1 : Int) := by omega
              go_wp2
              refine ⟨⟨j + 1, x + 1, y, xs, by go_num, by go_num, rfl, by omega, by omega, by omega, S.out, Z5.out, ?_⟩, by simp [intOf]; omega⟩
              have f := F5.out
              rw [HZ.out] at f
              exact f
        have m2 : ((s[j].toNat : Int) == 98) = false := by simp; omega
        by_cases q111 : bt s j = 111
        · have m3 : ((s[j].toNat : Int) == 111) = true := by simp; omega
          have Q := hide' q111
          clear q98 q111 hbK
          by_cases hc : H ≤ y ∨ W < x + 1
          · have RE := hide' (show runsS s = .inr (j, 1) by
              rw [← HF.out, tagsF_bad hli (by rw [HSK.out]; exact tag1_cells_bad HB.out (by rw [HTK.out]; exact hKl) (by rw [HTK.out]; exact Or.inr Q.out) (by rw [HTN.out]; exact hc))]; rfl)
            by_cases hy : H ≤ y
            · have m5 : (H : Int) ≤ (y : Int) := by omega
              clear hc
              go_wp2
              refine bodyPost_ret (v := .tuple #[.agg #[.int .i64 0, .int .i64 0, .slice none 0 0], .int .i64 ((j : Nat) : Int), .int .i64 1]) (by simp [results, Tryd.results40, go_sem, y0, y1, y2]) rfl ?_
              exact ⟨fin_below (B.out) _ _ _, Or.inr ⟨j, 1, RE.out, by omega, rfl⟩⟩
            · have m5 : ¬ (H : Int) ≤ (y : Int) := by omega
              have m6 : (W : Int) < (x : Int) + (1 : Int) := by omega
              clear hc
              go_wp2
              refine bodyPost_ret (v := .tuple #[.agg #[.int .i64 0, .int .i64 0, .slice none 0 0], .int .i64 ((j : Nat) : Int), .int .i64 1]) (by simp [results, Tryd.results40, go_sem, y0, y1, y2]) rfl ?_
              exact ⟨fin_below (B.out) _ _ _, Or.inr ⟨j, 1, RE.out, by omega, rfl⟩⟩
          have m5 : ¬ (H : Int) ≤ (y : Int) := by omega
          have m6 : ¬ (W : Int) < (x : Int) + (1 : Int) := by omega
          have hyW : y * W + x + 1 ≤ W * H := by
            rw [Nat.mul_comm W H]
            have := Nat.mul_le_mul_right W (show y + 1 ≤ H by omega)
            rw [Nat.add_mul] at this
            omega
          have F5 := hide' (show fin2 W H (tagsF s W H (s.size + 1 - (j + 1)) (j + 1) (x + 1) y (setRun xs (y * W + x) 1 1)) = runsS s by
            rw [← HF.out, tagsF_on hli (by rw [HSK.out]; exact tag1_cells_on 1 HB.out (by rw [HTK.out]; exact hKl) (by rw [HTK.out]; exact Or.inr Q.out) (by rw [HTK.out, Q.out]; simp) (by rw [HTN.out]; exact hc)), HTK.out, HTN.out])
          clear hc
          obtain ⟨Y, hY⟩ : ∃ Y, y * W = Y := ⟨_, rfl⟩
          obtain ⟨N, hN⟩ : ∃ N, W * H = N := ⟨_, rfl⟩
          have hYi : (y : Int) * (W : Int) = (Y : Int) := by rw [← hY]; simp
          have HYY := hide' hY
          have HNN := hide' hN
          have hN4 : N ≤ 10000 := by rw [← hN]; exact Nat.mul_le_mul lW lH
          rw [hY, hN] at hyW
          have Z5 := hide' (show zeros (setRun xs (y * W + x) 1 1) (y * W + (x + 1)) by
            have := setRun_zeros (xs := xs) (p := y * W + x) 1 1 (zeros_mono ZE.out (by omega))
            rw [Nat.add_assoc] at this
            exact this)
          clear hY hN
          go_wp2
          go_loopw [18] (fun kv wx => ∃ k : Nat, kv = .int .i64 (k : Int) ∧ k ≤ 1 ∧ RS w wx P W H (setRun xs (y * W + x) k 1)) (fun kv _ => 1 - (intOf kv).toNat)
          case atStart => exact ⟨0, rfl, by omega, S.out⟩
          case round =>
            obtain ⟨k, rfl, hk, rs⟩ := hrel
            have RR := hide' rs
            have d2 := rs.p2
            rw [HNN.out] at d2
            obtain ⟨y0, y1, y2, g0, g1, g2⟩ := rs.res
            clear rs
            by_cases d : k < 1
            · have o1 : (k : Int) < (1 : Int) := by omega
              have hpl : Y + x + k < (setRun xs (y * W + x) k 1).length := by rw [setRun_length, S.out.len, HNN.out]; omega
              have hv := RR.out.cel.cells (Y + x + k) hpl
              have hf := RR.out.cel.fz (Y + x + k)
              have HPL := hide' hpl
              have hlt : Y + x + k < N := by omega
              clear hpl
              go_wp2
              refine ⟨⟨k + 1, by go_num, by omega, ?_⟩, by simp [intOf]; omega⟩
              have := RR.out.set (Y + x + k) 1 HPL.out
              rw [setRun, HYY.out]
              rw [HYY.out] at this
              exact this
            · have o1 : ¬ (k : Int) < (1 : Int) := by omega
              have hkn : k = 1 := by omega
              have KN := hide' hkn
              clear hkn
              go_wp2
              refine ⟨⟨j + 1, x + 1, y, setRun xs (y * W + x) 1 1, by go_num, by go_num, rfl, by omega, by omega, by omega, ?_, Z5.out, F5.out⟩, by simp [intOf]; omega⟩
              have := RR.out
              rw [KN.out] at this
              exact this
        have m3 : ((s[j].toNat : Int) == 111) = false := by simp; omega
        by_cases q36 : bt s j = 36
        · have m4 : ((s[j].toNat : Int) == 36) = true := by simp; omega
          have Q := hide' q36
          clear q98 q111 q36 hbK
          by_cases hc : H ≤ y + 1
          · have m5 : (H : Int) ≤ (y : Int) + (1 : Int) := by omega
            have RE := hide' (show runsS s = .inr (j, 1) by
              rw [← HF.out, tagsF_bad hli (by rw [HSK.out]; exact tag1_rows_bad HB.out (by rw [HTK.out]; exact hKl) (by rw [HTK.out]; exact Q.out) (by rw [HTN.out]; exact hc))]; rfl)
            go_wp2
            refine bodyPost_ret (v := .tuple #[.agg #[.int .i64 0, .int .i64 0, .slice none 0 0], .int .i64 ((j : Nat) : Int), .int .i64 1]) (by simp [results, Tryd.results40, go_sem, y0, y1, y2]) rfl ?_
            exact ⟨fin_below (B.out) _ _ _, Or.inr ⟨j, 1, RE.out, by omega, rfl⟩⟩
          · have m5 : ¬ (H : Int) ≤ (y : Int) + (1 : Int) := by omega
            have F5 := hide' (show fin2 W H (tagsF s W H (s.size + 1 - (j + 1)) (j + 1) 0 (y + 1) xs) = runsS s by
              rw [← HF.out, tagsF_on hli (by rw [HSK.out]; exact tag1_rows_on HB.out (by rw [HTK.out]; exact hKl) (by rw [HTK.out]; exact Q.out) (by rw [HTN.out]; exact hc)), HTK.out, HTN.out])
            have Z5 := hide' (show zeros xs ((y + 1) * W + 0) from zeros_mono ZE.out (by rw [Nat.add_mul]; have := Nat.mul_le_mul_right W (show 1 ≤ 1 by omega); omega))
            go_wp2
            refine ⟨⟨j + 1, 0, y + 1, xs, by go_num, rfl, by go_num, by omega, by omega, by omega, S.out, Z5.out, F5.out⟩, ?_⟩
            simp [intOf]; omega
        have m4 : ((s[j].toNat : Int) == 36) = false := by simp; omega
        by_cases q33 : bt s j = 33
        · have m5 : ((s[j].toNat : Int) == 33) = true := by simp; omega
          have Q := hide' q33
          clear q98 q111 q36 q33 hbK
          by_cases hc : j = j
          · have T := hide' (fin_end (x := x) (y := y) (xs := xs) (W := W) (H := H) hli (by rw [HSK.out]; exact tag1_end HB.out (by rw [HTK.out]; exact hKl) (by rw [HTK.out]; exact Q.out) HTK.out))
            clear hc
            go_wp2
            go_loop [19] (fun kv => ∃ k : Nat, kv = .int .i64 (k : Int) ∧ j + 1 ≤ k ∧ k ≤ s.size ∧ sk s k = sk s (j + 1)) (fun kv => s.size - (intOf kv).toNat)
            case atStart => exact ⟨j + 1, by go_num, by omega, by omega, rfl⟩
            case round =>
              obtain ⟨k, rfl, hk1, hk2, hsk⟩ := hrel
              have HSK2 := hide' hsk
              clear hsk
              by_cases d : k < s.size
              · have o1 : (k : Int) < (s.size : Int) := by omega
                have hbk := bt_lt s k d
                by_cases b32 : bt s k = 32
                · have o2 : ((s[k].toNat : Int) != 32) = false := by simp; omega
                  have HB2 := hide' (sk_step (blankAt_true.2 ⟨d, Or.inl b32⟩))
                  clear b32 hbk
                  go_wp2
                  exact ⟨⟨k + 1, by go_num, by omega, by omega, HB2.out.symm.trans HSK2.out⟩, by simp [intOf]; omega⟩
                · have o2 : ((s[k].toNat : Int) != 32) = true := by simp; omega
                  by_cases b10 : bt s k = 10
                  · have o3 : ((s[k].toNat : Int) != 10) = false := by simp; omega
                    have HB2 := hide' (sk_step (blankAt_true.2 ⟨d, Or.inr b10⟩))
                    clear b32 b10 hbk
                    go_wp2
                    exact ⟨⟨k + 1, by go_num, by omega, by omega, HB2.out.symm.trans HSK2.out⟩, by simp [intOf]; omega⟩
                  · have o3 : ((s[k].toNat : Int) != 10) = true := by simp; omega
                    have HB2 := hide' (sk_stop (s := s) (i := k) (blankAt_false.2 (by omega)))
                    have RE := hide' (show runsS s = .inr (k, 2) by
                      rw [← HF.out, T.out]
                      unfold fin3
                      rw [HSK.out, HTK.out, ← HSK2.out, HB2.out, if_neg (by omega)])
                    clear b32 b10 hbk
                    go_wp2
                    refine bodyPost_ret (v := .tuple #[.agg #[.int .i64 0, .int .i64 0, .slice none 0 0], .int .i64 ((k : Nat) : Int), .int .i64 2]) (by simp [results, Tryd.results40, go_sem, y0, y1, y2]) rfl ?_
                    exact ⟨fin_below (B.out) _ _ _, Or.inr ⟨k, 2, RE.out, by omega, rfl⟩⟩
              · have o1 : ¬ (k : Int) < (s.size : Int) := by omega
                have HB2 := hide' (sk_stop (s := s) (i := k) (blankAt_false.2 (by omega)))
                have RE := hide' (show runsS s = .inl (W, H, xs) by
                  rw [← HF.out, T.out]
                  unfold fin3
                  rw [HSK.out, HTK.out, ← HSK2.out, HB2.out, if_pos (by omega)])
                go_wp2
                refine bodyPost_ret (v := .tuple #[.agg #[.int .i64 (W : Int), .int .i64 (H : Int), .slice (some ⟨P + 1, 0, none⟩) (W * H) (W * H)], .int .i64 0, .int .i64 0]) (by simp [results, Tryd.results40, go_sem, y0, y1, y2]) rfl ?_
                exact ⟨fin_below B.out _ _ _, Or.inl ⟨W, H, xs, P + 1, RE.out, rfl, fin_cel S.out.cel (by have := S.out.hP; omega) _ _ _, S.out.len, lW, lH⟩⟩
          · exact absurd rfl hc
        have m5 : ((s[j].toNat : Int) == 33) = false := by simp; omega
        have RE := hide' (show runsS s = .inr (j, 2) by
          rw [← HF.out, tagsF_bad hli (by rw [HSK.out]; exact tag1_none HB.out (by rw [HTK.out]; exact q98) (by rw [HTK.out]; exact q111) (by rw [HTK.out]; exact q36) (by rw [HTK.out]; exact q33)), HTK.out]; rfl)
        clear q98 q111 q36 q33 hbK
        go_wp2
        refine bodyPost_ret (v := .tuple #[.agg #[.int .i64 0, .int .i64 0, .slice none 0 0], .int .i64 ((j : Nat) : Int), .int .i64 2]) (by simp [results, Tryd.results40, go_sem, y0, y1, y2]) rfl ?_
        exact ⟨fin_below (B.out) _ _ _, Or.inr ⟨j, 2, RE.out, by omega, rfl⟩⟩
      have o4 : ¬ (48 : Int) ≤ (s[j].toNat : Int) := by omega
      have D := hide' (show inR s j 48 57 = false from inR_false.2 (by omega))
      clear hbj c48
      have HTN := hide' (show tagN s j = 1 by unfold tagN dAt; rw [D.out]; rfl)
      have HTK := hide' (show tagK s j = j by unfold tagK dAt; rw [D.out]; rfl)
      have HB := hide' (show tagBad s j = false by unfold tagBad dAt; rw [D.out]; rfl)
      by_cases eK : s.size ≤ j
      · exact absurd eK (by omega)
      have m1 : ¬ (s.size : Int) ≤ (j : Int) := by omega
      have hKl : j < s.size := by omega
      have hbK := bt_lt s j hKl
      clear eK
      by_cases q98 : bt s j = 98
      · have m2 : ((s[j].toNat : Int) == 98) = true := by simp; omega
        have m7 : ((s[j].toNat : Int) == 111) = false := by simp; omega
        have Q := hide' q98
        clear q98 hbK
        by_cases hc : H ≤ y ∨ W < x + 1
        · have RE := hide' (show runsS s = .inr (j, 1) by
            rw [← HF.out, tagsF_bad hli (by rw [HSK.out]; exact tag1_cells_bad HB.out (by rw [HTK.out]; exact hKl) (by rw [HTK.out]; exact Or.inl Q.out) (by rw [HTN.out]; exact hc))]; rfl)
          by_cases hy : H ≤ y
          · have m5 : (H : Int) ≤ (y : Int) := by omega
            clear hc
            go_wp2
            refine bodyPost_ret (v := .tuple #[.agg #[.int .i64 0, .int .i64 0, .slice none 0 0], .int .i64 ((j : Nat) : Int), .int .i64 1]) (by simp [results, Tryd.results40, go_sem, y0, y1, y2]) rfl ?_
            exact ⟨fin_below (B.out) _ _ _, Or.inr ⟨j, 1, RE.out, by omega, rfl⟩⟩
          · have m5 : ¬ (H : Int) ≤ (y : Int) := by omega
            have m6 : (W : Int) < (x : Int) + (1 : Int) := by omega
            clear hc
            go_wp2
            refine bodyPost_ret (v := .tuple #[.agg #[.int .i64 0, .int .i64 0, .slice none 0 0], .int .i64 ((j : Nat) : Int), .int .i64 1]) (by simp [results, Tryd.results40, go_sem, y0, y1, y2]) rfl ?_
            exact ⟨fin_below (B.out) _ _ _, Or.inr ⟨j, 1, RE.out, by omega, rfl⟩⟩
        have m5 : ¬ (H : Int) ≤ (y : Int) := by omega
        have m6 : ¬ (W : Int) < (x : Int) + (1 : Int) := by omega
        have hyW : y * W + x + 1 ≤ W * H := by
          rw [Nat.mul_comm W H]
          have := Nat.mul_le_mul_right W (show y + 1 ≤ H by omega)
          rw [Nat.add_mul] at this
          omega
        have F5 := hide' (show fin2 W H (tagsF s W H (s.size + 1 - (j + 1)) (j + 1) (x + 1) y (setRun xs (y * W + x) 1 0)) = runsS s by
          rw [← HF.out, tagsF_on hli (by rw [HSK.out]; exact tag1_cells_on 0 HB.out (by rw [HTK.out]; exact hKl) (by rw [HTK.out]; exact Or.inl Q.out) (by rw [HTK.out, Q.out]; simp) (by rw [HTN.out]; exact hc)), HTK.out, HTN.out])
        clear hc
        have HZ := hide' (setRun_zero ZE.out 1)
        have Z5 := hide' (show zeros xs (y * W + (x + 1)) from zeros_mono ZE.out (by omega))
        go_wp2
        go_loop [18] (fun kv => ∃ k : Nat, kv = .int .i64 (k : Int) ∧ k ≤ 1) (fun kv => 1 - (intOf kv).toNat)
        case atStart => exact ⟨0, rfl, by omega⟩
        case round =>
          obtain ⟨k, rfl, hk⟩ := hrel
          by_cases d : k < 1
          · have o1 : (k : Int) < (1 : Int) := by omega
            go_wp2
            exact ⟨⟨k + 1, by go_num, by omega⟩, by simp [intOf]; omega⟩
          · have o1 : ¬ (k : Int) < (1 : Int) := by omega
            go_wp2
            refine ⟨⟨j + 1, x + 1, y, xs, by go_num, by go_num, rfl, by omega, by omega, by omega, S.out, Z5.out, ?_⟩, by simp [intOf]; omega⟩
            have f := F5.out
            rw [HZ.out] at f
            exact f
      have m2 : ((s[j].toNat : Int) == 98) = false := by simp; omega
      by_cases q111 : bt s j = 111
      · have m3 : ((s[j].toNat : Int) == 111) = true := by simp; omega
        have Q := hide' q111
        clear q98 q111 hbK
        by_cases hc : H ≤ y ∨ W < x + 1
        · have RE := hide' (show runsS s = .inr (j, 1) by
            rw [← HF.out, tagsF_bad hli (by rw [HSK.out]; exact tag1_cells_bad HB.out (by rw [HTK.out]; exact hKl) (by rw [HTK.out]; exact Or.inr Q.out) (by rw [HTN.out]; exact hc))]; rfl)
          by_cases hy : H ≤ y
          · have m5 : (H : Int) ≤ (y : Int) := by omega
            clear hc
            go_wp2
            refine bodyPost_ret (v := .tuple #[.agg #[.int .i64 0, .int .i64 0, .slice none 0 0], .int .i64 ((j : Nat) : Int), .int .i64 1]) (by simp [results, Tryd.results40, go_sem, y0, y1, y2]) rfl ?_
            exact ⟨fin_below (B.out) _ _ _, Or.inr ⟨j, 1, RE.out, by omega, rfl⟩⟩
          · have m5 : ¬ (H : Int) ≤ (y : Int) := by omega
            have m6 : (W : Int) < (x : Int) + (1 : Int) := by omega
            clear hc
            go_wp2
            refine bodyPost_ret (v := .tuple #[.agg #[.int .i64 0, .int .i64 0, .slice none 0 0], .int .i64 ((j : Nat) : Int), .int .i64 1]) (by simp [results, Tryd.results40, go_sem, y0, y1, y2]) rfl ?_
            exact ⟨fin_below (B.out) _ _ _, Or.inr ⟨j, 1, RE.out, by omega, rfl⟩⟩
        have m5 : ¬ (H : Int) ≤ (y : Int) := by omega
        have m6 : ¬ (W : Int) < (x : Int) + (1 : Int) := by omega
        have hyW : y * W + x + 1 ≤ W * H := by
          rw [Nat.mul_comm W H]
          have := Nat.mul_le_mul_right W (show y + 1 ≤ H by omega)
          rw [Nat.add_mul] at this
          omega
        have F5 := hide' (show fin2 W H (tagsF s W H (s.size + 1 - (j + 1)) (j + 1) (x + 1) y (setRun xs (y * W + x) 1 1)) = runsS s by
          rw [← HF.out, tagsF_on hli (by rw [HSK.out]; exact tag1_cells_on 1 HB.out (by rw [HTK.out]; exact hKl) (by rw [HTK.out]; exact Or.inr Q.out) (by rw [HTK.out, Q.out]; simp) (by rw [HTN.out]; exact hc)), HTK.out, HTN.out])
        clear hc
        obtain ⟨Y, hY⟩ : ∃ Y, y * W = Y := ⟨_, rfl⟩
        obtain ⟨N, hN⟩ : ∃ N, W * H = N := ⟨_, rfl⟩
        have hYi : (y : Int) * (W : Int) = (Y : Int) := by rw [← hY]; simp
        have HYY := hide' hY
        have HNN := hide' hN
        have hN4 : N ≤ 10000 := by rw [← hN]; exact Nat.mul_le_mul lW lH
        rw [hY, hN] at hyW
        have Z5 := hide' (show zeros (setRun xs (y * W + x) 1 1) (y * W + (x + 1)) by
          have := setRun_zeros (xs := xs) (p := y * W + x) 1 1 (zeros_mono ZE.out (by omega))
          rw [Nat.add_assoc] at this
          exact this)
        clear hY hN
        go_wp2
        go_loopw [18] (fun kv wx => ∃ k : Nat, kv = .int .i64 (k : Int) ∧ k ≤ 1 ∧ RS w wx P W H (setRun xs (y * W + x) k 1)) (fun kv _ => 1 - (intOf kv).toNat)
        case atStart => exact ⟨0, rfl, by omega, S.out⟩
        case round =>
          obtain ⟨k, rfl, hk, rs⟩ := hrel
          have RR := hide' rs
          have d2 := rs.p2
          rw [HNN.out] at d2
          obtain ⟨y0, y1, y2, g0, g1, g2⟩ := rs.res
          clear rs
          by_cases d : k < 1
          · have o1 : (k : Int) < (1 : Int) := by omega
            have hpl : Y + x + k < (setRun xs (y * W + x) k 1).length := by rw [setRun_length, S.out.len, HNN.out]; omega
            have hv := RR.out.cel.cells (Y + x + k) hpl
            have hf := RR.out.cel.fz (Y + x + k)
            have HPL := hide' hpl
            have hlt : Y + x + k < N := by omega
            clear hpl
            go_wp2
            refine ⟨⟨k + 1, by go_num, by omega, ?_⟩, by simp [intOf]; omega⟩
            have := RR.out.set (Y + x + k) 1 HPL.out
            rw [setRun, HYY.out]
            rw [HYY.out] at this
            exact this
          · have o1 : ¬ (k : Int) < (1 : Int) := by omega
            have hkn : k = 1 := by omega
            have KN := hide' hkn
            clear hkn
            go_wp2
            refine ⟨⟨j + 1, x + 1, y, setRun xs (y * W + x) 1 1, by go_num, by go_num, rfl, by omega, by omega, by omega, ?_, Z5.out, F5.out⟩, by simp [intOf]; omega⟩
            have := RR.out
            rw [KN.out] at this
            exact this
      have m3 : ((s[j].toNat : Int) == 111) = false := by simp; omega
      by_cases q36 : bt s j = 36
      · have m4 : ((s[j].toNat : Int) == 36) = true := by simp; omega
        have Q := hide' q36
        clear q98 q111 q36 hbK
        by_cases hc : H ≤ y + 1
        · have m5 : (H : Int) ≤ (y : Int) + (1 : Int) := by omega
          have RE := hide' (show runsS s = .inr (j, 1) by
            rw [← HF.out, tagsF_bad hli (by rw [HSK.out]; exact tag1_rows_bad HB.out (by rw [HTK.out]; exact hKl) (by rw [HTK.out]; exact Q.out) (by rw [HTN.out]; exact hc))]; rfl)
          go_wp2
          refine bodyPost_ret (v := .tuple #[.agg #[.int .i64 0, .int .i64 0, .slice none 0 0], .int .i64 ((j : Nat) : Int), .int .i64 1]) (by simp [results, Tryd.results40, go_sem, y0, y1, y2]) rfl ?_
          exact ⟨fin_below (B.out) _ _ _, Or.inr ⟨j, 1, RE.out, by omega, rfl⟩⟩
        · have m5 : ¬ (H : Int) ≤ (y : Int) + (1 : Int) := by omega
          have F5 := hide' (show fin2 W H (tagsF s W H (s.size + 1 - (j + 1)) (j + 1) 0 (y + 1) xs) = runsS s by
            rw [← HF.out, tagsF_on hli (by rw [HSK.out]; exact tag1_rows_on HB.out (by rw [HTK.out]; exact hKl) (by rw [HTK.out]; exact Q.out) (by rw [HTN.out]; exact hc)), HTK.out, HTN.out])
          have Z5 := hide' (show zeros xs ((y + 1) * W + 0) from zeros_mono ZE.out (by rw [Nat.add_mul]; have := Nat.mul_le_mul_right W (show 1 ≤ 1 by omega); omega))
          go_wp2
          refine ⟨⟨j + 1, 0, y + 1, xs, by go_num, rfl, by go_num, by omega, by omega, by omega, S.out, Z5.out, F5.out⟩, ?_⟩
          simp [intOf]; omega
      have m4 : ((s[j].toNat : Int) == 36) = false := by simp; omega
      by_cases q33 : bt s j = 33
      · have m5 : ((s[j].toNat : Int) == 33) = true := by simp; omega
        have Q := hide' q33
        clear q98 q111 q36 q33 hbK
        by_cases hc : j = j
        · have T := hide' (fin_end (x := x) (y := y) (xs := xs) (W := W) (H := H) hli (by rw [HSK.out]; exact tag1_end HB.out (by rw [HTK.out]; exact hKl) (by rw [HTK.out]; exact Q.out) HTK.out))
          clear hc
          go_wp2
          go_loop [19] (fun kv => ∃ k : Nat, kv = .int .i64 (k : Int) ∧ j + 1 ≤ k ∧ k ≤ s.size ∧ sk s k = sk s (j + 1)) (fun kv => s.size - (intOf kv).toNat)
          case atStart => exact ⟨j + 1, by go_num, by omega, by omega, rfl⟩
          case round =>
            obtain ⟨k, rfl, hk1, hk2, hsk⟩ := hrel
            have HSK2 := hide' hsk
            clear hsk
            by_cases d : k < s.size
            · have o1 : (k : Int) < (s.size : Int) := by omega
              have hbk := bt_lt s k d
              by_cases b32 : bt s k = 32
              · have o2 : ((s[k].toNat : Int) != 32) = false := by simp; omega
                have HB2 := hide' (sk_step (blankAt_true.2 ⟨d, Or.inl b32⟩))
                clear b32 hbk
                go_wp2
                exact ⟨⟨k + 1, by go_num, by omega, by omega, HB2.out.symm.trans HSK2.out⟩, by simp [intOf]; omega⟩
              · have o2 : ((s[k].toNat : Int) != 32) = true := by simp; omega
                by_cases b10 : bt s k = 10
                · have o3 : ((s[k].toNat : Int) != 10) = false := by simp; omega
                  have HB2 := hide' (sk_step (blankAt_true.2 ⟨d, Or.inr b10⟩))
                  clear b32 b10 hbk
                  go_wp2
                  exact ⟨⟨k + 1, by go_num, by omega, by omega, HB2.out.symm.trans HSK2.out⟩, by simp [intOf]; omega⟩
                · have o3 : ((s[k].toNat : Int) != 10) = true := by simp; omega
                  have HB2 := hide' (sk_stop (s := s) (i := k) (blankAt_false.2 (by omega)))
                  have RE := hide' (show runsS s = .inr (k, 2) by
                    rw [← HF.out, T.out]
                    unfold fin3
                    rw [HSK.out, HTK.out, ← HSK2.out, HB2.out, if_neg (by omega)])
                  clear b32 b10 hbk
                  go_wp2
                  refine bodyPost_ret (v := .tuple #[.agg #[.int .i64 0, .int .i64 0, .slice none 0 0], .int .i64 ((k : Nat) : Int), .int .i64 2]) (by simp [results, Tryd.results40, go_sem, y0, y1, y2]) rfl ?_
                  exact ⟨fin_below (B.out) _ _ _, Or.inr ⟨k, 2, RE.out, by omega, rfl⟩⟩
            · have o1 : ¬ (k : Int) < (s.size : Int) := by omega
              have HB2 := hide' (sk_stop (s := s) (i := k) (blankAt_false.2 (by omega)))
              have RE := hide' (show runsS s = .inl (W, H, xs) by
                rw [← HF.out, T.out]
                unfold fin3
                rw [HSK.out, HTK.out, ← HSK2.out, HB2.out, if_pos (by omega)])
              go_wp2
              refine bodyPost_ret (v := .tuple #[.agg #[.int .i64 (W : Int), .int .i64 (H : Int), .slice (some ⟨P + 1, 0, none⟩) (W * H) (W * H)], .int .i64 0, .int .i64 0]) (by simp [results, Tryd.results40, go_sem, y0, y1, y2]) rfl ?_
              exact ⟨fin_below B.out _ _ _, Or.inl ⟨W, H, xs, P + 1, RE.out, rfl, fin_cel S.out.cel (by have := S.out.hP; omega) _ _ _, S.out.len, lW, lH⟩⟩
        · exact absurd rfl hc
      have m5 : ((s[j].toNat : Int) == 33) = false := by simp; omega
      have RE := hide' (show runsS s = .inr (j, 2) by
        rw [← HF.out, tagsF_bad hli (by rw [HSK.out]; exact tag1_none HB.out (by rw [HTK.out]; exact q98) (by rw [HTK.out]; exact q111) (by rw [HTK.out]; exact q36) (by rw [HTK.out]; exact q33)), HTK.out]; rfl)
      clear q98 q111 q36 q33 hbK
      go_wp2
      refine bodyPost_ret (v := .tuple #[.agg #[.int .i64 0, .int .i64 0, .slice none 0 0], .int .i64 ((j : Nat) : Int), .int .i64 2]) (by simp [results, Tryd.results40, go_sem, y0, y1, y2]) rfl ?_
      exact ⟨fin_below (B.out) _ _ _, Or.inr ⟨j, 2, RE.out, by omega, rfl⟩⟩
end Go.Proofs.YtjngjnkecnnmeaaDoor

namespace Go.Proofs.YtjngjnkecnnmeaaDoor
open Go.RowKit
set_option linter.unusedVariables false

structure RD (w wr : World) (W H : Nat) (v : Value) (xs : List Int) : Prop where
  res : ResB w.heap.size wr
  non : ResB (w.heap.size + 1) wr
  p0 : wr.cell? ⟨w.heap.size + 2, 0, none⟩ = some (.int .i64 (W : Int))
  p1 : wr.cell? ⟨w.heap.size + 2, 1, none⟩ = some (.int .i64 (H : Int))
  p2 : wr.cell? ⟨w.heap.size + 2, 2, none⟩ = some v
  fz : ∀ k, wr.frozen? ⟨w.heap.size + 2, k, none⟩ = false
  own : wr.ownsRow (w.heap.size + 3) 3 1 v xs.length (xs.map fun x => .int .i64 x)
  below : Below w.heap.size w wr
  sz : w.heap.size + 3 ≤ wr.heap.size
theorem RD.grown {w wr w' : World} {W H : Nat} {v : Value} {xs : List Int} (h : RD w wr W H v xs) (x : Int) (hg : (wr.alloc (.cells #[.int .i64 x] 3)).grownBy w' v.ownBlock) : ∀ k, k < w.heap.size + 3 → w'.heap[k]? = wr.heap[k]? := fun k hk => by
  have hz := h.sz
  have hob := ownsRow_block h.own
  rw [hg.block k (by rw [World.size_alloc]; omega) (fun e => by have := hob k e.symm; omega)]
  exact Below.heap_alloc _ _ _ (by omega)
theorem RD.mid {w wr w' : World} {W H : Nat} {v : Value} {xs : List Int} (h : RD w wr W H v xs) (x : Int) (hg : (wr.alloc (.cells #[.int .i64 x] 3)).grownBy w' v.ownBlock) : w'.cell? ⟨w.heap.size + 2, 2, none⟩ = some v ∧ w'.frozen? ⟨w.heap.size + 2, 2, none⟩ = false :=
  ⟨(World.cell?_of_block (w := wr) (a := ⟨w.heap.size + 2, 2, none⟩) (h.grown x hg _ (by simp))).trans h.p2, (World.frozen?_of_block (w := wr) (a := ⟨w.heap.size + 2, 2, none⟩) (h.grown x hg _ (by simp))).trans (h.fz 2)⟩
theorem RD.push {w wr w' : World} {W H : Nat} {v v' : Value} {xs : List Int} (h : RD w wr W H v xs) (x : Int) (hg : (wr.alloc (.cells #[.int .i64 x] 3)).grownBy w' v.ownBlock) (ho : w'.ownsRow (w.heap.size + 3) 3 1 v' (xs.length + 1) ((xs.map fun x => .int .i64 x) ++ [.int .i64 x])) : RD w (w'.setCell ⟨w.heap.size + 2, 2, none⟩ v') W H v' (xs ++ [x]) := by
  have hk := h.grown x hg
  have hz := h.sz
  have hsz : wr.heap.size + 1 ≤ w'.heap.size := by have := hg.size; rw [World.size_alloc] at this; exact this
  have hb : Below w.heap.size w w' := h.below.trans ⟨hg.os, hg.tape, hg.output, by omega, fun k hkk => hk k (by omega)⟩
  refine ⟨(h.res.block (hk _ (by omega))).block (Below.heap_setCell _ _ _ _ (by simp)), (h.non.block (hk _ (by omega))).block (Below.heap_setCell _ _ _ _ (by simp)), ?_, ?_, ?_, fun k => ?_, ?_, hb.setCell (by simp) _, by rw [World.size_setCell]; omega⟩
  · exact cell_other ((World.cell?_of_block (w := wr) (a := ⟨w.heap.size + 2, 0, none⟩) (hk _ (by simp))).trans h.p0) (by omega)
  · exact cell_other ((World.cell?_of_block (w := wr) (a := ⟨w.heap.size + 2, 1, none⟩) (hk _ (by simp))).trans h.p1) (by omega)
  · exact cell_same ((World.cell?_of_block (w := wr) (a := ⟨w.heap.size + 2, 2, none⟩) (hk _ (by simp))).trans h.p2)
  · rw [World.frozen?_setCell]; exact (World.frozen?_of_block (w := wr) (a := ⟨w.heap.size + 2, k, none⟩) (hk _ (by simp))).trans (h.fz k)
  · have := ownsRow_setCell_below ho (a := ⟨w.heap.size + 2, 2, none⟩) (by simp) v'
    simpa using this
theorem RD.ten {w wr : World} {W H : Nat} {v : Value} {xs : List Int} (h : RD w wr W H v xs) (n : Nat) : RD w ((wr.setCell ⟨w.heap.size + 2, 0, none⟩ (.int .i64 (n : Int))).setCell ⟨w.heap.size + 2, 1, none⟩ (.int .i64 ((H + 1 : Nat) : Int))) n (H + 1) v xs := by
  refine ⟨(h.res.block (Below.heap_setCell _ _ _ _ (by simp))).block (Below.heap_setCell _ _ _ _ (by simp)), (h.non.block (Below.heap_setCell _ _ _ _ (by simp))).block (Below.heap_setCell _ _ _ _ (by simp)), cell_other (cell_same h.p0) (by omega), cell_same (cell_other h.p1 (by omega)), cell_other (cell_other h.p2 (by omega)) (by omega), fun k => ?_, ?_, (h.below.setCell (by simp) _).setCell (by simp) _, by rw [World.size_setCell, World.size_setCell]; exact h.sz⟩
  · rw [World.frozen?_setCell, World.frozen?_setCell]; exact h.fz k
  · exact ownsRow_setCell_below (ownsRow_setCell_below h.own (a := ⟨w.heap.size + 2, 0, none⟩) (by simp) _) (a := ⟨w.heap.size + 2, 1, none⟩) (by simp) _
theorem frozen_new (w : World) (a : Array Value) (t : TypeId) (k : Nat) : (w.alloc (.cells a t)).frozen? ⟨w.heap.size, k, none⟩ = false := by simp
theorem RD.start (w : World) (t1 t2 t3 : TypeId) : RD w (((w.alloc (.cells #[.int .i64 0, .int .i64 0, .slice none 0 0] t1)).alloc (.cells #[.int .i64 0, .int .i64 0, .slice none 0 0] t2)).alloc (.cells #[.int .i64 0, .int .i64 0, .slice none 0 0] t3)) 0 0 (.slice none 0 0) [] := by
  have r1 := res_new (w.alloc (.cells #[.int .i64 0, .int .i64 0, .slice none 0 0] t1)) t2
  rw [show (w.alloc (.cells #[.int .i64 0, .int .i64 0, .slice none 0 0] t1)).heap.size = w.heap.size + 1 by simp] at r1
  refine ⟨((res_new w t1).block (Below.heap_alloc _ _ _ (by simp))).block (Below.heap_alloc _ _ _ (by simp; omega)), r1.block (Below.heap_alloc _ _ _ (by simp)), ?_, ?_, ?_, fun k => ?_, ⟨by simp, Or.inl ⟨rfl, by simp⟩⟩, (((Below.refl _ _).alloc (Nat.le_refl _) _).alloc (by simp) _).alloc (by simp; omega) _, by simp⟩
  · rw [World.cell?_alloc_at _ _ _ _ (by simp)]; rfl
  · rw [World.cell?_alloc_at _ _ _ _ (by simp)]; rfl
  · rw [World.cell?_alloc_at _ _ _ _ (by simp)]; rfl
  · rw [show w.heap.size + 2 = ((w.alloc (.cells #[.int .i64 0, .int .i64 0, .slice none 0 0] t1)).alloc (.cells #[.int .i64 0, .int .i64 0, .slice none 0 0] t2)).heap.size by simp]
    exact frozen_new _ _ _ _

def RefDraw (s : ByteArray) (w : World) (e : Ending) (w' : World) : Prop :=
  Below w.heap.size w w' ∧
  ((∃ (W H : Nat) (xs : List Int) (v : Value), drawS s = .inl (W, H, xs) ∧ e = .returned (.tuple #[.agg #[.int .i64 (W : Int), .int .i64 (H : Int), v], .int .i64 0, .int .i64 0]) ∧ Tab w' v xs ∧ xs.length ≤ 10100 ∧ Fresh w v) ∨
   (∃ a f : Nat, drawS s = .inr (a, f) ∧ 1 ≤ f ∧ e = .returned (.tuple #[.agg #[.int .i64 0, .int .i64 0, .slice none 0 0], .int .i64 (a : Int), .int .i64 (f : Int)])))

end Go.Proofs.YtjngjnkecnnmeaaDoor

namespace Go.Proofs.YtjngjnkecnnmeaaDoor
open Go.RowKit
set_option linter.unusedVariables false

set_option maxRecDepth 100000 in
set_option maxHeartbeats 6400000 in
theorem refParseDraw (s : ByteArray) (w : World) (hs : s.size ≤ 40000) :
    Calls Tryd.prog 42 #[.string s] w (RefDraw s w) := by
  have n1 : ¬ (40000 : Int) < (s.size : Int) := by omega
  have S0 := hide' (RD.start w 51 51 51)
  have N0 := hide' (DNum.start s hs)
  obtain ⟨i0, hi, hz0, hz1, hz2⟩ := info_parts info_int
  go_enter Tryd.func42, Tryd.ntmps42
  go_wp2
  go_loopw [7, 8, 9] (fun rv nv iv wr => ∃ (i r n W H : Nat) (v : Value) (xs : List Int), rv = .int .i64 (r : Int) ∧ nv = .int .i64 (n : Int) ∧ iv = .int .i64 (i : Int) ∧ RD w wr W H v xs ∧ DNum s i r n W H xs) (fun _ _ iv _ => s.size - (intOf iv).toNat)
  case atStart => exact ⟨0, 0, 0, 0, 0, _, [], rfl, rfl, rfl, S0.out, N0.out⟩
  case round =>
    obtain ⟨i, r, n, W, H, v, xs, rfl, rfl, rfl, rd, dn⟩ := hrel
    have S := hide' rd
    have N := hide' dn
    have hli := dn.li
    have hln := dn.ln
    have hlh := dn.lH
    have hlr := dn.lr
    have hz := rd.sz
    have ho := rd.own
    have B := hide' rd.below
    obtain ⟨y0, y1, y2, g0, g1, g2⟩ := rd.res
    obtain ⟨t0, t1, t2, -, -, -⟩ := rd.non
    have q0 := rd.p0
    have q1 := rd.p1
    have q2 := rd.p2
    have f0 := rd.fz 0
    have f1 := rd.fz 1
    have f2 := rd.fz 2
    obtain ⟨sa, sn, sc, rfl⟩ := ownsRow_slice ho
    have HO := hide' ho
    clear rd dn S0 N0 ho
    by_cases hlt : i < s.size
    · have o0 : (i : Int) < (s.size : Int) := by omega
      have hb0 := bt_lt s i hlt
      by_cases b194 : bt s i = 194
      · have m1 : ((s[i].toNat : Int) == 194) = true := by simp; omega
        have m2 : ((s[i].toNat : Int) == 226) = false := by simp; omega
        have m3 : ((s[i].toNat : Int) != 10) = true := by simp; omega
        have hba : isBall s i = false := by
          cases hd : isBall s i with
          | false => rfl
          | true => have := isBall_true.1 hd; omega
        by_cases l1 : i + 1 < s.size
        · have o1 : (i : Int) + 1 < (s.size : Int) := by omega
          have hb1 := bt_lt s (i + 1) l1
          by_cases b183 : bt s (i + 1) = 183
          · have m4 : ((s[i + 1].toNat : Int) == 183) = true := by simp; omega
            have hd : isDot s i = true := isDot_true.2 ⟨b194, l1, b183⟩
            have hj : i + 2 ≤ s.size := by omega
            clear hb0 hb1 b194 b183 m2 m3
            have EQ := hide' (drawF_dot (r := r) (n := n) (W := W) (H := H) (xs := xs) hlt hd)
            by_cases h100 : H = 100
            · have hn0 := N.out.top h100
              have p0 : ((n : Int) == 0) = true := by simp; omega
              have p1 : ((H : Int) == 100) = true := by simp; omega
              have RE := hide' (show drawS s = .inr (r, 1) by rw [← N.out.eq, EQ.out, if_pos h100])
              clear hn0 h100
              go_wp2
              refine bodyPost_ret (v := .tuple #[.agg #[.int .i64 0, .int .i64 0, .slice none 0 0], .int .i64 ((r : Nat) : Int), .int .i64 1]) (by simp [results, Tryd.results42, go_sem, y0, y1, y2]) rfl ?_
              exact ⟨fin_below B.out _ _ _, Or.inr ⟨r, 1, RE.out, by omega, rfl⟩⟩
            have p1 : ((H : Int) == 100) = false := by simp; omega
            by_cases n0 : n = 0
            · have p0 : ((n : Int) == 0) = true := by simp; omega
              have N0' := hide' n0
              by_cases n100 : n = 100
              · have p2 : ((n : Int) == 100) = true := by simp; omega
                have RE := hide' (show drawS s = .inr (i, 1) by rw [← N.out.eq, EQ.out, if_neg h100, if_pos n100])
                clear n100 n0
                go_wp2
                refine bodyPost_ret (v := .tuple #[.agg #[.int .i64 0, .int .i64 0, .slice none 0 0], .int .i64 ((i : Nat) : Int), .int .i64 1]) (by simp [results, Tryd.results42, go_sem, y0, y1, y2]) rfl ?_
                exact ⟨fin_below B.out _ _ _, Or.inr ⟨i, 1, RE.out, by omega, rfl⟩⟩
              have p2 : ((n : Int) == 100) = false := by simp; omega
              have N2 := hide' (N.out.cell (i + 2) 0 hj (by omega) h100 n100 (by rw [EQ.out, if_neg h100, if_neg n100]))
              clear n0
              have hsm := N.out.small h100
              go_wp2_with (at_builtin; refine wpList_append_own _ rfl _ _ 22 rfl (w.heap.size + 3) 3 i0 (.int .i64 0) 1 8 Tryd.underlying22 hi hz0 hz1 hz2 rfl (by decide) (.slice sa sn sc) _ _ rfl (HO.out.alloc _) ⟨wr.heap.size, 0, none⟩ 1 1 [.int .i64 0] rfl rfl (cell_one_new _ _ _) (fun x hx => by simp at hx; subst hx; rfl) (by unfold maxLen; omega) (by omega) (by simp; omega) ?_; intro v' w3 hown' hgrow3 hnil3; obtain ⟨ta, tn, tc, rfl⟩ := ownsRow_slice hown'; obtain ⟨x5, x6⟩ := S.out.mid 0 hgrow3; have G3 := hide' hgrow3; have O3 := hide' hown'; clear hgrow3 hown' hnil3)
              refine ⟨⟨i + 2, r, n + 1, W, H, _, xs ++ [0], rfl, by go_num, by go_num, S.out.push 0 G3.out O3.out, N2.out⟩, by simp [intOf]; omega⟩
            · have p0 : ((n : Int) == 0) = false := by simp; omega
              by_cases n100 : n = 100
              · have p2 : ((n : Int) == 100) = true := by simp; omega
                have RE := hide' (show drawS s = .inr (i, 1) by rw [← N.out.eq, EQ.out, if_neg h100, if_pos n100])
                clear n100
                go_wp2
                refine bodyPost_ret (v := .tuple #[.agg #[.int .i64 0, .int .i64 0, .slice none 0 0], .int .i64 ((i : Nat) : Int), .int .i64 1]) (by simp [results, Tryd.results42, go_sem, y0, y1, y2]) rfl ?_
                exact ⟨fin_below B.out _ _ _, Or.inr ⟨i, 1, RE.out, by omega, rfl⟩⟩
              have p2 : ((n : Int) == 100) = false := by simp; omega
              have N2 := hide' (N.out.cell (i + 2) 0 hj (by omega) h100 n100 (by rw [EQ.out, if_neg h100, if_neg n100]))
              have hsm := N.out.small h100
              go_wp2_with (at_builtin; refine wpList_append_own _ rfl _ _ 22 rfl (w.heap.size + 3) 3 i0 (.int .i64 0) 1 8 Tryd.underlying22 hi hz0 hz1 hz2 rfl (by decide) (.slice sa sn sc) _ _ rfl (HO.out.alloc _) ⟨wr.heap.size, 0, none⟩ 1 1 [.int .i64 0] rfl rfl (cell_one_new _ _ _) (fun x hx => by simp at hx; subst hx; rfl) (by unfold maxLen; omega) (by omega) (by simp; omega) ?_; intro v' w3 hown' hgrow3 hnil3; obtain ⟨ta, tn, tc, rfl⟩ := ownsRow_slice hown'; obtain ⟨x5, x6⟩ := S.out.mid 0 hgrow3; have G3 := hide' hgrow3; have O3 := hide' hown'; clear hgrow3 hown' hnil3)
              refine ⟨⟨i + 2, r, n + 1, W, H, _, xs ++ [0], rfl, by go_num, by go_num, S.out.push 0 G3.out O3.out, N2.out⟩, by simp [intOf]; omega⟩
          · have m4 : ((s[i + 1].toNat : Int) == 183) = false := by simp; omega
            have HD := hide' (And.intro (show isDot s i = false by
              cases hd : isDot s i with
              | false => rfl
              | true => exact absurd (isDot_true.1 hd).2.2 b183) hba)
            clear hb0 hb1
            have RE := hide' (show drawS s = .inr (i, 2) by rw [← N.out.eq, drawF_none hlt HD.out.1 HD.out.2 (by omega)])
            go_wp2
            refine bodyPost_ret (v := .tuple #[.agg #[.int .i64 0, .int .i64 0, .slice none 0 0], .int .i64 ((i : Nat) : Int), .int .i64 2]) (by simp [results, Tryd.results42, go_sem, y0, y1, y2]) rfl ?_
            exact ⟨fin_below B.out _ _ _, Or.inr ⟨i, 2, RE.out, by omega, rfl⟩⟩
        · have o1 : ¬ (i : Int) + 1 < (s.size : Int) := by omega
          have HD := hide' (And.intro (show isDot s i = false by
            cases hd : isDot s i with
            | false => rfl
            | true => exact absurd (isDot_true.1 hd).2.1 l1) hba)
          clear hb0
          have RE := hide' (show drawS s = .inr (i, 2) by rw [← N.out.eq, drawF_none hlt HD.out.1 HD.out.2 (by omega)])
          go_wp2
          refine bodyPost_ret (v := .tuple #[.agg #[.int .i64 0, .int .i64 0, .slice none 0 0], .int .i64 ((i : Nat) : Int), .int .i64 2]) (by simp [results, Tryd.results42, go_sem, y0, y1, y2]) rfl ?_
          exact ⟨fin_below B.out _ _ _, Or.inr ⟨i, 2, RE.out, by omega, rfl⟩⟩
      · have m1 : ((s[i].toNat : Int) == 194) = false := by simp; omega
        have hd : isDot s i = false := by
          cases hd : isDot s i with
          | false => rfl
          | true => exact absurd (isDot_true.1 hd).1 b194
        by_cases b226 : bt s i = 226
        · have m2 : ((s[i].toNat : Int) == 226) = true := by simp; omega
          have m3 : ((s[i].toNat : Int) != 10) = true := by simp; omega
          by_cases l2 : i + 2 < s.size
          · have o2 : (i : Int) + 2 < (s.size : Int) := by omega
            have l1 : i + 1 < s.size := by omega
            have o1 : (i : Int) + 1 < (s.size : Int) := by omega
            have hb1 := bt_lt s (i + 1) l1
            have hb2 := bt_lt s (i + 2) l2
            by_cases b151 : bt s (i + 1) = 151
            · have m4 : ((s[i + 1].toNat : Int) == 151) = true := by simp; omega
              by_cases b143 : bt s (i + 2) = 143
              · have m5 : ((s[i + 2].toNat : Int) == 143) = true := by simp; omega
                have hba : isBall s i = true := isBall_true.2 ⟨b226, l2, b151, b143⟩
                have hj : i + 3 ≤ s.size := by omega
                clear hb0 hb1 hb2 b194 b226 b151 b143 m3
                have EQ := hide' (drawF_ball (r := r) (n := n) (W := W) (H := H) (xs := xs) hlt hd hba)
                by_cases h100 : H = 100
                · have hn0 := N.out.top h100
                  have p0 : ((n : Int) == 0) = true := by simp; omega
                  have p1 : ((H : Int) == 100) = true := by simp; omega
                  have RE := hide' (show drawS s = .inr (r, 1) by rw [← N.out.eq, EQ.out, if_pos h100])
                  clear hn0 h100
                  go_wp2
                  refine bodyPost_ret (v := .tuple #[.agg #[.int .i64 0, .int .i64 0, .slice none 0 0], .int .i64 ((r : Nat) : Int), .int .i64 1]) (by simp [results, Tryd.results42, go_sem, y0, y1, y2]) rfl ?_
                  exact ⟨fin_below B.out _ _ _, Or.inr ⟨r, 1, RE.out, by omega, rfl⟩⟩
                have p1 : ((H : Int) == 100) = false := by simp; omega
                by_cases n0 : n = 0
                · have p0 : ((n : Int) == 0) = true := by simp; omega
                  have N0' := hide' n0
                  by_cases n100 : n = 100
                  · have p2 : ((n : Int) == 100) = true := by simp; omega
                    have RE := hide' (show drawS s = .inr (i, 1) by rw [← N.out.eq, EQ.out, if_neg h100, if_pos n100])
                    clear n100 n0
                    go_wp2
                    refine bodyPost_ret (v := .tuple #[.agg #[.int .i64 0, .int .i64 0, .slice none 0 0], .int .i64 ((i : Nat) : Int), .int .i64 1]) (by simp [results, Tryd.results42, go_sem, y0, y1, y2]) rfl ?_
                    exact ⟨fin_below B.out _ _ _, Or.inr ⟨i, 1, RE.out, by omega, rfl⟩⟩
                  have p2 : ((n : Int) == 100) = false := by simp; omega
                  have N2 := hide' (N.out.cell (i + 3) 1 hj (by omega) h100 n100 (by rw [EQ.out, if_neg h100, if_neg n100]))
                  clear n0
                  have hsm := N.out.small h100
                  go_wp2_with (at_builtin; refine wpList_append_own _ rfl _ _ 22 rfl (w.heap.size + 3) 3 i0 (.int .i64 0) 1 8 Tryd.underlying22 hi hz0 hz1 hz2 rfl (by decide) (.slice sa sn sc) _ _ rfl (HO.out.alloc _) ⟨wr.heap.size, 0, none⟩ 1 1 [.int .i64 1] rfl rfl (cell_one_new _ _ _) (fun x hx => by simp at hx; subst hx; rfl) (by unfold maxLen; omega) (by omega) (by simp; omega) ?_; intro v' w3 hown' hgrow3 hnil3; obtain ⟨ta, tn, tc, rfl⟩ := ownsRow_slice hown'; obtain ⟨x5, x6⟩ := S.out.mid 1 hgrow3; have G3 := hide' hgrow3; have O3 := hide' hown'; clear hgrow3 hown' hnil3)
                  refine ⟨⟨i + 3, r, n + 1, W, H, _, xs ++ [1], rfl, by go_num, by go_num, S.out.push 1 G3.out O3.out, N2.out⟩, by simp [intOf]; omega⟩
                · have p0 : ((n : Int) == 0) = false := by simp; omega
                  by_cases n100 : n = 100
                  · have p2 : ((n : Int) == 100) = true := by simp; omega
                    have RE := hide' (show drawS s = .inr (i, 1) by rw [← N.out.eq, EQ.out, if_neg h100, if_pos n100])
                    clear n100
                    go_wp2
                    refine bodyPost_ret (v := .tuple #[.agg #[.int .i64 0, .int .i64 0, .slice none 0 0], .int .i64 ((i : Nat) : Int), .int .i64 1]) (by simp [results, Tryd.results42, go_sem, y0, y1, y2]) rfl ?_
                    exact ⟨fin_below B.out _ _ _, Or.inr ⟨i, 1, RE.out, by omega, rfl⟩⟩
                  have p2 : ((n : Int) == 100) = false := by simp; omega
                  have N2 := hide' (N.out.cell (i + 3) 1 hj (by omega) h100 n100 (by rw [EQ.out, if_neg h100, if_neg n100]))
                  have hsm := N.out.small h100
                  go_wp2_with (at_builtin; refine wpList_append_own _ rfl _ _ 22 rfl (w.heap.size + 3) 3 i0 (.int .i64 0) 1 8 Tryd.underlying22 hi hz0 hz1 hz2 rfl (by decide) (.slice sa sn sc) _ _ rfl (HO.out.alloc _) ⟨wr.heap.size, 0, none⟩ 1 1 [.int .i64 1] rfl rfl (cell_one_new _ _ _) (fun x hx => by simp at hx; subst hx; rfl) (by unfold maxLen; omega) (by omega) (by simp; omega) ?_; intro v' w3 hown' hgrow3 hnil3; obtain ⟨ta, tn, tc, rfl⟩ := ownsRow_slice hown'; obtain ⟨x5, x6⟩ := S.out.mid 1 hgrow3; have G3 := hide' hgrow3; have O3 := hide' hown'; clear hgrow3 hown' hnil3)
                  refine ⟨⟨i + 3, r, n + 1, W, H, _, xs ++ [1], rfl, by go_num, by go_num, S.out.push 1 G3.out O3.out, N2.out⟩, by simp [intOf]; omega⟩
              · have m5 : ((s[i + 2].toNat : Int) == 143) = false := by simp; omega
                have HD := hide' (And.intro hd (show isBall s i = false by
                  cases hd : isBall s i with
                  | false => rfl
                  | true => exact absurd (isBall_true.1 hd).2.2.2 b143))
                clear hb0 hb1 hb2
                have RE := hide' (show drawS s = .inr (i, 2) by rw [← N.out.eq, drawF_none hlt HD.out.1 HD.out.2 (by omega)])
                go_wp2
                refine bodyPost_ret (v := .tuple #[.agg #[.int .i64 0, .int .i64 0, .slice none 0 0], .int .i64 ((i : Nat) : Int), .int .i64 2]) (by simp [results, Tryd.results42, go_sem, y0, y1, y2]) rfl ?_
                exact ⟨fin_below B.out _ _ _, Or.inr ⟨i, 2, RE.out, by omega, rfl⟩⟩
            · have m4 : ((s[i + 1].toNat : Int) == 151) = false := by simp; omega
              have HD := hide' (And.intro hd (show isBall s i = false by
                cases hd : isBall s i with
                | false => rfl
                | true => exact absurd (isBall_true.1 hd).2.2.1 b151))
              clear hb0 hb1 hb2
              have RE := hide' (show drawS s = .inr (i, 2) by rw [← N.out.eq, drawF_none hlt HD.out.1 HD.out.2 (by omega)])
              go_wp2
              refine bodyPost_ret (v := .tuple #[.agg #[.int .i64 0, .int .i64 0, .slice none 0 0], .int .i64 ((i : Nat) : Int), .int .i64 2]) (by simp [results, Tryd.results42, go_sem, y0, y1, y2]) rfl ?_
              exact ⟨fin_below B.out _ _ _, Or.inr ⟨i, 2, RE.out, by omega, rfl⟩⟩
          · have o2 : ¬ (i : Int) + 2 < (s.size : Int) := by omega
            have HD := hide' (And.intro hd (show isBall s i = false by
              cases hd : isBall s i with
              | false => rfl
              | true => exact absurd (isBall_true.1 hd).2.1 l2))
            clear hb0
            have RE := hide' (show drawS s = .inr (i, 2) by rw [← N.out.eq, drawF_none hlt HD.out.1 HD.out.2 (by omega)])
            go_wp2
            refine bodyPost_ret (v := .tuple #[.agg #[.int .i64 0, .int .i64 0, .slice none 0 0], .int .i64 ((i : Nat) : Int), .int .i64 2]) (by simp [results, Tryd.results42, go_sem, y0, y1, y2]) rfl ?_
            exact ⟨fin_below B.out _ _ _, Or.inr ⟨i, 2, RE.out, by omega, rfl⟩⟩
        · have m2 : ((s[i].toNat : Int) == 226) = false := by simp; omega
          have HD := hide' (And.intro hd (show isBall s i = false by
            cases hd : isBall s i with
            | false => rfl
            | true => exact absurd (isBall_true.1 hd).1 b226))
          by_cases b10 : bt s i = 10
          · have m3 : ((s[i].toNat : Int) != 10) = false := by simp; omega
            have EQ := hide' (drawF_ten (r := r) (n := n) (W := W) (H := H) (xs := xs) hlt b10)
            clear hb0 b194 b226
            by_cases h100 : H = 100
            · have p1 : ((H : Int) == 100) = true := by simp; omega
              have RE := hide' (show drawS s = .inr (r, 1) by rw [← N.out.eq, EQ.out, if_pos h100])
              clear h100 b10
              go_wp2
              refine bodyPost_ret (v := .tuple #[.agg #[.int .i64 0, .int .i64 0, .slice none 0 0], .int .i64 ((r : Nat) : Int), .int .i64 1]) (by simp [results, Tryd.results42, go_sem, y0, y1, y2]) rfl ?_
              exact ⟨fin_below B.out _ _ _, Or.inr ⟨r, 1, RE.out, by omega, rfl⟩⟩
            have p1 : ((H : Int) == 100) = false := by simp; omega
            by_cases hH0 : 0 < H
            · have p2 : (0 : Int) < (H : Int) := by omega
              by_cases hnW : n = W
              · have p3 : ((n : Int) != (W : Int)) = false := by simp; omega
                have N2 := hide' (N.out.ten hlt h100 (fun q => q.2 hnW) b10)
                clear hnW b10
                go_wp2
                refine ⟨⟨i + 1, i + 1, 0, n, H + 1, .slice sa sn sc, xs, by go_num, rfl, by go_num, ?_, N2.out⟩, by simp [intOf]; omega⟩
                rw [show (H : Int) + 1 = ((H + 1 : Nat) : Int) by omega]
                exact S.out.ten n
              · have p3 : ((n : Int) != (W : Int)) = true := by simp; omega
                have RE := hide' (show drawS s = .inr (r, 3) by rw [← N.out.eq, EQ.out, if_neg h100, if_pos ⟨hH0, hnW⟩])
                clear hnW b10
                go_wp2
                refine bodyPost_ret (v := .tuple #[.agg #[.int .i64 0, .int .i64 0, .slice none 0 0], .int .i64 ((r : Nat) : Int), .int .i64 3]) (by simp [results, Tryd.results42, go_sem, y0, y1, y2]) rfl ?_
                exact ⟨fin_below B.out _ _ _, Or.inr ⟨r, 3, RE.out, by omega, rfl⟩⟩
            · have p2 : ¬ (0 : Int) < (H : Int) := by omega
              have N2 := hide' (N.out.ten hlt h100 (fun q => hH0 q.1) b10)
              clear b10
              go_wp2
              refine ⟨⟨i + 1, i + 1, 0, n, H + 1, .slice sa sn sc, xs, by go_num, rfl, by go_num, ?_, N2.out⟩, by simp [intOf]; omega⟩
              rw [show (H : Int) + 1 = ((H + 1 : Nat) : Int) by omega]
              exact S.out.ten n
          · have m3 : ((s[i].toNat : Int) != 10) = true := by simp; omega
            clear hb0
            have RE := hide' (show drawS s = .inr (i, 2) by rw [← N.out.eq, drawF_none hlt HD.out.1 HD.out.2 (by omega)])
            go_wp2
            refine bodyPost_ret (v := .tuple #[.agg #[.int .i64 0, .int .i64 0, .slice none 0 0], .int .i64 ((i : Nat) : Int), .int .i64 2]) (by simp [results, Tryd.results42, go_sem, y0, y1, y2]) rfl ?_
            exact ⟨fin_below B.out _ _ _, Or.inr ⟨i, 2, RE.out, by omega, rfl⟩⟩
    · have o0 : ¬ (i : Int) < (s.size : Int) := by omega
      have EQ := hide' (drawF_end (s := s) (i := i) (r := r) (n := n) (W := W) (H := H) (xs := xs) (by omega))
      by_cases q : r < s.size
      · have m1 : (r : Int) < (s.size : Int) := by omega
        have RE := hide' (show drawS s = .inr (s.size, 2) by rw [← N.out.eq, EQ.out, if_pos q])
        go_wp2
        refine bodyPost_ret (v := .tuple #[.agg #[.int .i64 0, .int .i64 0, .slice none 0 0], .int .i64 ((s.size : Nat) : Int), .int .i64 2]) (by simp [results, Tryd.results42, go_sem, y0, y1, y2]) rfl ?_
        exact ⟨fin_below B.out _ _ _, Or.inr ⟨s.size, 2, RE.out, by omega, rfl⟩⟩
      · have m1 : ¬ (r : Int) < (s.size : Int) := by omega
        have RE := hide' (show drawS s = .inl (W, H, xs) by rw [← N.out.eq, EQ.out, if_neg q])
        go_wp2
        refine bodyPost_ret (v := .tuple #[.agg #[.int .i64 (W : Int), .int .i64 (H : Int), .slice sa sn sc], .int .i64 0, .int .i64 0]) (by simp [results, Tryd.results42, go_sem, y0, y1, y2]) rfl ?_
        refine ⟨fin_below B.out _ _ _, Or.inl ⟨W, H, xs, _, RE.out, rfl, ?_, N.out.all, fresh_own HO.out (by omega)⟩⟩
        exact ownsRow_tab (ownsRow_setCell_below (ownsRow_setCell_below (ownsRow_setCell_below HO.out (a := ⟨w.heap.size, 0, none⟩) (by simp) _) (a := ⟨w.heap.size, 1, none⟩) (by simp) _) (a := ⟨w.heap.size, 2, none⟩) (by simp) _)
end Go.Proofs.YtjngjnkecnnmeaaDoor

namespace Go.Proofs.YtjngjnkecnnmeaaDoor
open Go.RowKit
set_option linter.unusedVariables false

set_option maxRecDepth 100000 in
set_option maxHeartbeats 1600000 in
theorem pParseDraw_any (s : ByteArray) (w : World) (hs : s.size ≤ maxLen) :
    Calls Tryd.prog 41 #[.string s] w (DrawPost s w) := by
  by_cases h : 40000 < s.size
  · have n1 : (40000 : Int) < (s.size : Int) := by omega
    have r0 := res_new w 51
    obtain ⟨y0, y1, y2, g0, g1, g2⟩ := r0
    unfold maxLen at hs
    have RE := hide' (show drawS s = .inr (0, 4) by unfold drawS; rw [if_pos h])
    go_enter Tryd.func41, Tryd.ntmps41
    go_wp2
    refine bodyPost_ret (v := .tuple #[.agg #[.int .i64 0, .int .i64 0, .slice none 0 0], .int .i64 0, .iface 87 (.int .i64 4)]) (by simp [results, Tryd.results41, go_sem]) rfl ?_
    refine ⟨?_, Or.inr ⟨0, 4, RE.out, rfl⟩⟩
    exact (Below.refl _ _).alloc (Nat.le_refl _) _
  · exact pParseDraw s w (by omega)

set_option maxRecDepth 100000 in
set_option maxHeartbeats 1600000 in
theorem refParseDraw_any (s : ByteArray) (w : World) (hs : s.size ≤ maxLen) :
    Calls Tryd.prog 42 #[.string s] w (RefDraw s w) := by
  by_cases h : 40000 < s.size
  · have n1 : (40000 : Int) < (s.size : Int) := by omega
    unfold maxLen at hs
    have RE := hide' (show drawS s = .inr (0, 4) by unfold drawS; rw [if_pos h])
    go_enter Tryd.func42, Tryd.ntmps42
    go_wp2
    refine bodyPost_ret (v := .tuple #[.agg #[.int .i64 0, .int .i64 0, .slice none 0 0], .int .i64 0, .int .i64 4]) (by simp [results, Tryd.results42, go_sem]) rfl ?_
    refine ⟨?_, Or.inr ⟨0, 4, RE.out, by omega, rfl⟩⟩
    exact ((Below.refl _ _).alloc (Nat.le_refl _) _).alloc (by simp) _
  · exact refParseDraw s w (by omega)

set_option maxRecDepth 100000 in
set_option maxHeartbeats 1600000 in
theorem refParseRuns_any (s : ByteArray) (w : World) (hs : s.size ≤ maxLen) :
    Calls Tryd.prog 40 #[.string s] w (RefRuns s w) := by
  by_cases h : 40000 < s.size
  · have n1 : (40000 : Int) < (s.size : Int) := by omega
    unfold maxLen at hs
    have RE := hide' (show runsS s = .inr (0, 4) by unfold runsS; rw [if_pos h])
    go_enter Tryd.func40, Tryd.ntmps40
    go_wp2
    refine bodyPost_ret (v := .tuple #[.agg #[.int .i64 0, .int .i64 0, .slice none 0 0], .int .i64 0, .int .i64 4]) (by simp [results, Tryd.results40, go_sem]) rfl ?_
    refine ⟨?_, Or.inr ⟨0, 4, RE.out, by omega, rfl⟩⟩
    exact ((Below.refl _ _).alloc (Nat.le_refl _) _).alloc (by simp) _
  · exact refParseRuns s w (by omega)

end Go.Proofs.YtjngjnkecnnmeaaDoor

namespace Go.Proofs.YtjngjnkecnnmeaaDoor
open Go.RowKit
set_option linter.unusedVariables false

def alikeB (p q : Pat) : Bool := decide (p.xs = q.xs) && ((p.W : Int) == (q.W : Int)) && ((p.H : Int) == (q.H : Int))
theorem alikeB_self (p : Pat) : alikeB p p = true := by unfold alikeB; simp
theorem Alike_P (W H W' H' : Nat) (xs ys : List Int) (a b : Option Addr) (c d : Nat) (w : World) (hA : ArgP w xs a xs.length c) (hB : ArgP w ys b ys.length d) :
    Calls Tryd.prog 33 #[.agg #[.int .i64 (W : Int), .int .i64 (H : Int), .slice a xs.length c], .agg #[.int .i64 (W' : Int), .int .i64 (H' : Int), .slice b ys.length d]] w fun e w' => e = .returned (.bool (alikeB ⟨W, H, xs⟩ ⟨W', H', ys⟩)) ∧ Below w.heap.size w w' :=
  Alike_any W H W' H' xs ys a b xs.length c ys.length d w hA hB

set_option maxHeartbeats 1600000 in
theorem back_P (W H W' H' : Nat) (xs ys : List Int) (a b : Option Addr) (c d : Nat) (w : World) (hA : ArgP w xs a xs.length c) (hB : ArgP w ys b ys.length d) :
    Calls Tryd.prog 43 #[.agg #[.int .i64 (W : Int), .int .i64 (H : Int), .slice a xs.length c], .agg #[.int .i64 (W' : Int), .int .i64 (H' : Int), .slice b ys.length d], .nilIface] w fun e w' => e = .returned (.bool (alikeB ⟨W, H, xs⟩ ⟨W', H', ys⟩)) ∧ Below w.heap.size w w' := by
  have B := hide' (((Below.refl w.heap.size w).alloc (Nat.le_refl _) (.cells #[.int .i64 (W : Int), .int .i64 (H : Int), .slice a xs.length c] 51)).alloc (by simp) (.cells #[.int .i64 (W' : Int), .int .i64 (H' : Int), .slice b ys.length d] 51))
  have AA := hide' (hA.below B.out)
  have AB := hide' (hB.below B.out)
  obtain ⟨r, hr⟩ : ∃ r, alikeB ⟨W, H, xs⟩ ⟨W', H', ys⟩ = r := ⟨_, rfl⟩
  have HR := hide' hr
  clear hA hB
  rw [hr]
  clear hr
  cases r
  all_goals
    go_enter Tryd.func43, Tryd.ntmps43
    go_wp2_with fail
    refine (Alike_P W H W' H' xs ys a b c d _ AA.out AB.out).mono ?_
    rw [HR.out]
    rintro e w1 ⟨rfl, b1⟩
    have B1 := hide' (B.out.trans (b1.mono B.out.size))
    clear b1
    go_wp2
    go_ret
    exact ⟨rfl, B1.out⟩

def ReadPost (q : Pat) (w : World) (e : Ending) (w' : World) : Prop :=
  ∃ v, e = .returned (.tuple #[.agg #[.int .i64 (q.W : Int), .int .i64 (q.H : Int), v], .int .i64 0, .nilIface]) ∧ Tab w' v q.xs ∧ True ∧ Below w.heap.size w w'
def ReadPostF (q : Pat) (w : World) (e : Ending) (w' : World) : Prop :=
  ∃ v, e = .returned (.tuple #[.agg #[.int .i64 (q.W : Int), .int .i64 (q.H : Int), v], .int .i64 0, .nilIface]) ∧ Tab w' v q.xs ∧ Fresh w v ∧ Below w.heap.size w w'
theorem parseRuns_ok (s : ByteArray) (q : Pat) (w : World) (hs : s.size ≤ maxLen) (h : runsS s = .inl (q.W, q.H, q.xs)) :
    Calls Tryd.prog 39 #[.string s] w (ReadPost q w) := by
  refine (pParseRuns_any s w hs).mono ?_
  rintro e w' ⟨hb, (⟨W', H', xs', g, h1, h2, h3, h4, h5, h6⟩ | ⟨a, f, h1, -⟩)⟩
  · rw [h] at h1
    injection h1 with h1
    injection h1 with e1 h1
    injection h1 with e2 e3
    subst e1 e2 e3
    exact ⟨_, h2, h3.tab h4, trivial, hb⟩
  · rw [h] at h1; cases h1
theorem parseDraw_ok (s : ByteArray) (q : Pat) (w : World) (hs : s.size ≤ maxLen) (h : drawS s = .inl (q.W, q.H, q.xs)) :
    Calls Tryd.prog 41 #[.string s] w (ReadPostF q w) := by
  refine (pParseDraw_any s w hs).mono ?_
  rintro e w' ⟨hb, (⟨W', H', xs', v, h1, h2, h3, h4, h5⟩ | ⟨a, f, h1, -⟩)⟩
  · rw [h] at h1
    injection h1 with h1
    injection h1 with e1 h1
    injection h1 with e2 e3
    subst e1 e2 e3
    exact ⟨_, h2, h3, h5, hb⟩
  · rw [h] at h1; cases h1

theorem shape_bits01 {W H : Int} {xs : List Int} (h : shapeF W H xs = 0) : bits xs := by
  intro x hx
  unfold shapeF at h
  split at h
  · split at h
    · split at h
      · rename_i q
        have := (List.all_eq_true.1 q) x hx
        exact (cellB_iff x).1 this
      · cases h
    · cases h
  · cases h
theorem runs_size (W H : Nat) (xs : List Int) (hW : W ≤ 100) (hH : H ≤ 100) : (⟨(runsB ⟨W, H, xs⟩).toArray⟩ : ByteArray).size ≤ maxLen := by
  have h1 := (rowsF_sum W xs hW H hH).1
  have h2 := (rowsF_sum W xs hW H hH).2.1
  have h3 : H * W ≤ 10000 := Nat.mul_le_mul hH hW
  have a1 := dec_lt3 W hW
  have a2 := dec_lt3 H hH
  show (runsB ⟨W, H, xs⟩).toArray.size ≤ _
  rw [List.size_toArray, runsB_is]
  simp [headB]
  unfold maxLen
  omega
theorem draw_size (W H : Nat) (xs : List Int) (hW : W ≤ 100) (hH : H ≤ 100) : (⟨(drawRows W xs H).toArray⟩ : ByteArray).size ≤ maxLen := by
  have h1 := drawRows_le W xs hW H
  show (drawRows W xs H).toArray.size ≤ _
  rw [List.size_toArray]
  unfold maxLen
  omega
def factS : ByteArray := ⟨#[120, 32, 61, 32, 50, 44, 32, 121, 32, 61, 32, 49, 10, 98, 111, 33, 10]⟩
theorem fact_runs : runsS factS = .inl (2, 1, [0, 1]) := by
  have h := runs_back 2 1 [0, 1] (by omega) (by omega) rfl (by intro x hx; simp at hx; omega)
  have e : factS = txt (runsB ⟨2, 1, [0, 1]⟩) := by
    unfold factS txt
    congr 1
    simp [runsB, dec_small, rowsF, endF, cntF, nextF, runsF, timesB, tagB]
  rw [e]
  exact h
def drawnP (W H : Nat) (xs : List Int) : Pat := ⟨if H = 0 then 0 else W, H, xs⟩
end Go.Proofs.YtjngjnkecnnmeaaDoor

namespace Go.Proofs.YtjngjnkecnnmeaaDoor
open Go.RowKit
set_option linter.unusedVariables false

theorem fact_cell {w : World} {a : Option Addr} {c : Nat} (h : Tab w (.slice a 2 c) [0, 1]) : ∃ g, a = some ⟨g, 0, none⟩ ∧ w.cell? ⟨g, 1, none⟩ = some (.int .i64 1) ∧ g < w.heap.size := by
  rcases h with ⟨h, -⟩ | ⟨g, cap, e, hg, hc⟩
  · cases h
  · injection e with e1
    exact ⟨g, e1, hc 1 (by simp), hg⟩
theorem FreshC.caps {w w' : World} {a : Option Addr} {n c : Nat} {xs : List Int} {v : Value} (f : FreshC w v) (t : Tab w' v xs) (e : v = .slice a n c) : n ≤ c ∧ c ≤ maxLen := by
  rcases t with ⟨h1, h2⟩ | ⟨g, cap, h1, -⟩
  · rw [h2] at e
    injection e with e1 e2 e3
    subst e2 e3
    exact ⟨Nat.le_refl _, Nat.zero_le _⟩
  · have := f g _ _ h1
    rw [h1] at e
    injection e with e1 e2 e3
    subst e2 e3
    exact this.2
theorem getD_bits {xs : List Int} (h : bits xs) (i : Nat) : xs.getD i 0 = 0 ∨ xs.getD i 0 = 1 := by
  rcases Nat.lt_or_ge i xs.length with q | q
  · rw [List.getD_eq_getElem?_getD, List.getElem?_eq_getElem q]
    exact h _ (List.getElem_mem q)
  · rw [List.getD_eq_getElem?_getD, List.getElem?_eq_none q]
    exact Or.inl rfl
theorem turn_all {p : Pat} (h : bits p.xs) (hp : p.ok) (k : Nat) (hk : k < 8) : bits (p.turn k).xs := by
  rw [turn_is p hp k hk]
  intro x hx
  have hx' : x ∈ refTurn p k := hx
  unfold refTurn at hx'
  obtain ⟨i, -, rfl⟩ := List.mem_map.1 hx'
  exact getD_bits h _
theorem shape_of {W H : Nat} {xs : List Int} (lW : W ≤ 100) (lH : H ≤ 100) (hn : xs.length = W * H) (hb : bits xs) : shapeF W H xs = 0 := by
  unfold shapeF
  rw [show sideB (W : Int) = true by unfold sideB; simp; omega, show sideB (H : Int) = true by unfold sideB; simp; omega]
  rw [if_pos (show (true && true) = true from rfl), if_pos (by rw [hn]; simp), if_pos]
  rw [List.all_eq_true]
  intro x hx
  exact (cellB_iff x).2 (hb x hx)
theorem turn_shape {W H k : Nat} {xs : List Int} (hs : shapeF W H xs = 0) (lW : W ≤ 100) (lH : H ≤ 100) (hn : xs.length = W * H) (hk : k < 8) : shapeF (Pat.turn ⟨W, H, xs⟩ k).W (Pat.turn ⟨W, H, xs⟩ k).H (Pat.turn ⟨W, H, xs⟩ k).xs = 0 := by
  have f := turn_fits (show Fits xs.length ⟨W, H, xs⟩ from ⟨hn, lW, lH, rfl⟩) k hk
  exact shape_of f.w f.h f.ok (turn_all (p := ⟨W, H, xs⟩) (shape_bits01 hs) hn k hk)
theorem pTurn_at (W H k : Nat) (K : Int) (xs : List Int) (a : Option Addr) (c : Nat) (w : World) (hP : ArgP w xs a xs.length c) (hp : Pat.ok ⟨W, H, xs⟩) (lW : W ≤ 100) (lH : H ≤ 100) (hs : shapeF W H xs = 0) (hk : k < 8) (hK : K = (k : Int)) :
    Calls Tryd.prog 32 #[.agg #[.int .i64 (W : Int), .int .i64 (H : Int), .slice a xs.length c], .int .i64 K] w (TurnOkPost (Pat.turn ⟨W, H, xs⟩ k) w) := by
  subst hK
  exact pTurn_ok' W H k xs a c w hP hp lW lH hs hk
end Go.Proofs.YtjngjnkecnnmeaaDoor

namespace Go.Proofs.YtjngjnkecnnmeaaDoor
open Go.RowKit
set_option linter.unusedVariables false

set_option maxRecDepth 100000 in
set_option maxHeartbeats 6400000 in
theorem law_back_bad (W H k : Int) (xs : List Int) (a : Option Addr) (c : Nat) (w : World) (hP : ArgP w xs a xs.length c) (hs : shapeF W H xs ≠ 0) :
    Calls Tryd.prog 8 #[.agg #[.int .i64 W, .int .i64 H, .slice a xs.length c], .int .i64 k] w fun e w' => e = .returned (.bool true) ∧ Below w.heap.size w w' := by
  obtain ⟨w1, hw1⟩ : ∃ w1, w.alloc (.cells #[.int .i64 W, .int .i64 H, .slice a xs.length c] 51) = w1 := ⟨_, rfl⟩
  have AP := hide' (show ArgP w1 xs a xs.length c by rw [← hw1]; exact hP.alloc _)
  have BX := hide' (show TB w.heap.size (.int .i64 W) (.int .i64 H) (.slice a xs.length c) w1 by rw [← hw1]; exact TB.new w _ _ _ _)
  have BB := hide' (show Below w.heap.size w w1 by rw [← hw1]; exact (Below.refl _ _).alloc (Nat.le_refl _) _)
  have HS := hide' hs
  obtain ⟨f, hf⟩ : ∃ f, shapeF W H xs = f := ⟨_, rfl⟩
  have HF := hide' hf
  clear hP hs hf
  have C0 := hide' (Below.refl w1.heap.size w1)
  obtain ⟨x0, x1, x2, -⟩ := BX.out
  go_enter Tryd.func8, Tryd.ntmps8
  go_wp2_with fail
  refine (parseRuns_ok factS ⟨2, 1, [0, 1]⟩ _ (by decide) fact_runs).mono ?_
  rintro e w2 ⟨v2, rfl, t2, f2, b⟩
  have C1 := hide' (C0.out.trans (b.mono C0.out.size))
  obtain ⟨a2, c2, rfl, -⟩ := t2.arg (by decide)
  clear hw1
  have C1' := hide' (C1.out.alloc C1.out.size (.cells #[.int .i64 2, .int .i64 1, .slice a2 2 c2] 51))
  clear C1
  have C1 := C1'
  clear C1'
  have Q0 := hide' (PV.new (q := ⟨2, 1, [0, 1]⟩) t2 51)
  obtain ⟨gq, hgq, q3, q4⟩ := fact_cell t2
  subst hgq
  clear t2 f2
  clear b x0 x1 x2 C0
  obtain ⟨x0, x1, x2, -⟩ := BX.out.next C1.out
  obtain ⟨q0, q1, q2, -⟩ := Q0.out.tb
  go_wp2_with fail
  refine (pRuns_bad W H xs a xs.length c _ (AP.out.below C1.out) HS.out).mono ?_
  rw [HF.out]
  rintro e w3 ⟨rfl, b⟩
  have C2 := hide' (C1.out.trans (b.mono C1.out.size))
  have Q0' := hide' (Q0.out.next b)
  clear Q0
  have Q0 := Q0'
  clear Q0'
  clear b x0 x1 x2 C1
  obtain ⟨x0, x1, x2, -⟩ := BX.out.next C2.out
  go_wp2
  go_ret
  exact ⟨rfl, BB.out.trans (C2.out.mono BB.out.size)⟩

set_option maxRecDepth 100000 in
set_option maxHeartbeats 12800000 in
theorem law_back_kbad_t (W H : Nat) (k : Int) (xs : List Int) (a : Option Addr) (c : Nat) (w : World) (hP : ArgP w xs a xs.length c) (hT : PowT w) (hc : xs.length ≤ c) (hcm : c ≤ maxLen) (lW : W ≤ 100) (lH : H ≤ 100) (hs : shapeF W H xs = 0) (hn : xs.length = W * H) (hk : k < 0 ∨ 7 < k) (ht0 : alikeB ⟨W, H, xs⟩ (drawnP W H xs) = true) :
    Calls Tryd.prog 8 #[.agg #[.int .i64 (W : Int), .int .i64 (H : Int), .slice a xs.length c], .int .i64 k] w fun e w' => e = .returned (.bool true) ∧ Below w.heap.size w w' := by
  obtain ⟨w1, hw1⟩ : ∃ w1, w.alloc (.cells #[.int .i64 (W : Int), .int .i64 (H : Int), .slice a xs.length c] 51) = w1 := ⟨_, rfl⟩
  have AP := hide' (show ArgP w1 xs a xs.length c by rw [← hw1]; exact hP.alloc _)
  have BX := hide' (show TB w.heap.size (.int .i64 (W : Int)) (.int .i64 (H : Int)) (.slice a xs.length c) w1 by rw [← hw1]; exact TB.new w _ _ _ _)
  have BB := hide' (show Below w.heap.size w w1 by rw [← hw1]; exact (Below.refl _ _).alloc (Nat.le_refl _) _)
  have HS := hide' hs
  have HT := hide' (hT.below BB.out)
  have HN := hide' hn
  have LW := hide' lW
  have LH := hide' lH
  have HC := hide' hc
  have HCM := hide' hcm
  have OK := hide' (show Pat.ok ⟨W, H, xs⟩ from hn)
  have BT := hide' (shape_bits01 hs)
  have RR := hide' (runs_back W H xs lW lH hn BT.out)
  have RD := hide' (draw_back W H xs lW lH hn BT.out)
  have SR := hide' (runs_size W H xs lW lH)
  have SD := hide' (draw_size W H xs lW lH)
  unfold txt at RR RD
  have FP := hide' (show Fits xs.length ⟨W, H, xs⟩ from ⟨OK.out, lW, lH, rfl⟩)
  have MP := hide' (show xs.length ≤ maxLen from FP.out.max)
  obtain ⟨rs, hrs⟩ : ∃ rs, (⟨(runsB ⟨W, H, xs⟩).toArray⟩ : ByteArray) = rs := ⟨_, rfl⟩
  obtain ⟨ds, hds⟩ : ∃ ds, (⟨(drawRows W xs H).toArray⟩ : ByteArray) = ds := ⟨_, rfl⟩
  rw [hrs] at RR SR
  rw [hds] at RD SD
  have RS := hide' hrs
  have DS := hide' hds
  obtain ⟨dp, hdp⟩ : ∃ dp, drawnP W H xs = dp := ⟨_, rfl⟩
  have DP := hide' (show drawS ds = .inl (dp.W, dp.H, dp.xs) by rw [RD.out, ← hdp]; rfl)
  have DM := hide' (show dp.xs.length ≤ maxLen by rw [← hdp]; exact MP.out)
  have T0 := hide' (show alikeB ⟨W, H, xs⟩ ⟨dp.W, dp.H, dp.xs⟩ = true by rw [← hdp]; exact ht0)
  have S0 := hide' (alikeB_self ⟨W, H, xs⟩)
  have HK := hide' hk
  clear hk
  clear hP hT hs hn hrs hds hdp lW lH hc hcm ht0
  have C0 := hide' (Below.refl w1.heap.size w1)
  obtain ⟨x0, x1, x2, -⟩ := BX.out
  go_enter Tryd.func8, Tryd.ntmps8
  go_wp2_with fail
  refine (parseRuns_ok factS ⟨2, 1, [0, 1]⟩ _ (by decide) fact_runs).mono ?_
  rintro e w2 ⟨v2, rfl, t2, f2, b⟩
  have C1 := hide' (C0.out.trans (b.mono C0.out.size))
  obtain ⟨a2, c2, rfl, -⟩ := t2.arg (by decide)
  clear hw1
  have C1' := hide' (C1.out.alloc C1.out.size (.cells #[.int .i64 2, .int .i64 1, .slice a2 2 c2] 51))
  clear C1
  have C1 := C1'
  clear C1'
  have Q0 := hide' (PV.new (q := ⟨2, 1, [0, 1]⟩) t2 51)
  obtain ⟨gq, hgq, q3, q4⟩ := fact_cell t2
  subst hgq
  clear t2 f2
  clear b x0 x1 x2 C0
  obtain ⟨x0, x1, x2, -⟩ := BX.out.next C1.out
  obtain ⟨q0, q1, q2, -⟩ := Q0.out.tb
  go_wp2_with fail
  refine (pRuns W H xs a xs.length c _ (AP.out.below C1.out) (HT.out.below C1.out) HC.out HCM.out LW.out LH.out HS.out HN.out).mono ?_
  rw [RS.out]
  rintro e w3 ⟨rfl, b⟩
  clear Q0
  have C2 := hide' (C1.out.trans (b.mono C1.out.size))
  clear q0 q1 q2 q3 q4
  clear b x0 x1 x2 C1
  obtain ⟨x0, x1, x2, -⟩ := BX.out.next C2.out
  go_wp2_with fail
  refine (parseRuns_ok rs ⟨W, H, xs⟩ _ SR.out RR.out).mono ?_
  rintro e w4 ⟨v4, rfl, t4, f4, b⟩
  have C3 := hide' (C2.out.trans (b.mono C2.out.size))
  obtain ⟨a4, c4, rfl, -⟩ := t4.arg MP.out
  have C3' := hide' (C3.out.alloc C3.out.size (.cells #[.int .i64 (W : Int), .int .i64 (H : Int), .slice a4 xs.length c4] 51))
  clear C3
  have C3 := C3'
  clear C3'
  have Z := hide' (PV.new (q := ⟨W, H, xs⟩) t4 51)
  clear t4 f4
  have HZ := hide' (show w1.heap.size ≤ w4.heap.size from (C2.out.trans (b.mono C2.out.size)).size)
  have ZB := hide' (show BoxZ _ _ from ⟨_, _, _, Z.out.tb⟩)
  clear b x0 x1 x2 C2
  obtain ⟨x0, x1, x2, -⟩ := BX.out.next C3.out
  obtain ⟨_, _, e0, ap⟩ := Z.out.tab.arg MP.out
  injection e0 with e1 _ e2
  subst e1 e2
  have AZ := hide' ap
  clear ap
  obtain ⟨q0, q1, q2, -⟩ := Z.out.tb
  go_wp2_with fail
  refine (back_P W H W H xs xs a _ c _ _ (AP.out.below C3.out) AZ.out).mono ?_
  rw [S0.out]
  rintro e w5 ⟨rfl, b⟩
  clear q0 q1 q2
  clear Z
  have C4 := hide' (C3.out.trans (b.mono C3.out.size))
  have ZB' := hide' (ZB.out.next b)
  clear ZB
  have ZB := ZB'
  clear ZB'
  clear AZ
  clear b x0 x1 x2 C3
  obtain ⟨x0, x1, x2, -⟩ := BX.out.next C4.out
  go_wp2_with fail
  refine (pDraw W H xs a xs.length c _ (AP.out.below C4.out) HC.out HCM.out LW.out LH.out HS.out HN.out).mono ?_
  rw [DS.out]
  rintro e w6 ⟨rfl, b⟩
  have C5 := hide' (C4.out.trans (b.mono C4.out.size))
  have ZB' := hide' (ZB.out.next b)
  clear ZB
  have ZB := ZB'
  clear ZB'
  clear b x0 x1 x2 C4
  obtain ⟨x0, x1, x2, -⟩ := BX.out.next C5.out
  go_wp2_with fail
  refine (parseDraw_ok ds dp _ SD.out DP.out).mono ?_
  rintro e w7 ⟨v7, rfl, t7, f7, b⟩
  have zl := ZB.out.lt
  have C6 := hide' (C5.out.trans (b.mono C5.out.size))
  have ZB' := hide' (ZB.out.next b)
  clear ZB
  have ZB := ZB'
  clear ZB'
  obtain ⟨a7, c7, rfl, -⟩ := t7.arg DM.out
  have C6' := hide' (below_stored C6.out (w4.heap.size) HZ.out (.int .i64 (dp.W : Int)) (.int .i64 (dp.H : Int)) (.slice a7 dp.xs.length c7))
  clear C6
  have C6 := C6'
  clear C6'
  have ZD := hide' (BoxZ.put (q := dp) ZB.out t7 (fun g k c e => by have := f7 g k c e; omega))
  obtain ⟨za, zb, zc, z0, z1, z2, zf⟩ := ZB.out
  have g0 := zf 0
  have g1 := zf 1
  have g2 := zf 2
  clear zl ZB zf t7 f7
  clear b x0 x1 x2 C5
  obtain ⟨x0, x1, x2, -⟩ := BX.out.next C6.out
  obtain ⟨y0, y1, y2, -⟩ := ZD.out.tb
  obtain ⟨_, _, e0, ap⟩ := ZD.out.tab.arg DM.out
  injection e0 with e1 _ e2
  subst e1 e2
  have AZ := hide' ap
  clear ap
  go_wp2_with fail
  refine (back_P W H dp.W dp.H xs dp.xs a _ c _ _ (AP.out.below C6.out) AZ.out).mono ?_
  rw [T0.out]
  rintro e w8 ⟨rfl, b⟩
  have C7 := hide' (C6.out.trans (b.mono C6.out.size))
  clear AZ ZD y0 y1 y2 z0 z1 z2 g0 g1 g2
  clear b x0 x1 x2 C6
  obtain ⟨x0, x1, x2, -⟩ := BX.out.next C7.out
  go_wp2_with fail
  refine (pTurn_k W H k xs a xs.length c _ (AP.out.below C7.out) HS.out HK.out).mono ?_
  unfold ErrPost
  rintro e w9 ⟨rfl, b⟩
  have C8 := hide' (C7.out.trans (b.mono C7.out.size))
  clear b x0 x1 x2 C7
  obtain ⟨x0, x1, x2, -⟩ := BX.out.next C8.out
  go_wp2
  go_ret
  exact ⟨rfl, BB.out.trans ((C8.out.alloc C8.out.size _).mono BB.out.size)⟩

set_option maxRecDepth 100000 in
set_option maxHeartbeats 12800000 in
theorem law_back_kbad_f (W H : Nat) (k : Int) (xs : List Int) (a : Option Addr) (c : Nat) (w : World) (hP : ArgP w xs a xs.length c) (hT : PowT w) (hc : xs.length ≤ c) (hcm : c ≤ maxLen) (lW : W ≤ 100) (lH : H ≤ 100) (hs : shapeF W H xs = 0) (hn : xs.length = W * H) (hk : k < 0 ∨ 7 < k) (ht0 : alikeB ⟨W, H, xs⟩ (drawnP W H xs) = false) (hH : ¬ (0 : Int) < (H : Int)) :
    Calls Tryd.prog 8 #[.agg #[.int .i64 (W : Int), .int .i64 (H : Int), .slice a xs.length c], .int .i64 k] w fun e w' => e = .returned (.bool true) ∧ Below w.heap.size w w' := by
  obtain ⟨w1, hw1⟩ : ∃ w1, w.alloc (.cells #[.int .i64 (W : Int), .int .i64 (H : Int), .slice a xs.length c] 51) = w1 := ⟨_, rfl⟩
  have AP := hide' (show ArgP w1 xs a xs.length c by rw [← hw1]; exact hP.alloc _)
  have BX := hide' (show TB w.heap.size (.int .i64 (W : Int)) (.int .i64 (H : Int)) (.slice a xs.length c) w1 by rw [← hw1]; exact TB.new w _ _ _ _)
  have BB := hide' (show Below w.heap.size w w1 by rw [← hw1]; exact (Below.refl _ _).alloc (Nat.le_refl _) _)
  have HS := hide' hs
  have HT := hide' (hT.below BB.out)
  have HN := hide' hn
  have LW := hide' lW
  have LH := hide' lH
  have HC := hide' hc
  have HCM := hide' hcm
  have OK := hide' (show Pat.ok ⟨W, H, xs⟩ from hn)
  have BT := hide' (shape_bits01 hs)
  have RR := hide' (runs_back W H xs lW lH hn BT.out)
  have RD := hide' (draw_back W H xs lW lH hn BT.out)
  have SR := hide' (runs_size W H xs lW lH)
  have SD := hide' (draw_size W H xs lW lH)
  unfold txt at RR RD
  have FP := hide' (show Fits xs.length ⟨W, H, xs⟩ from ⟨OK.out, lW, lH, rfl⟩)
  have MP := hide' (show xs.length ≤ maxLen from FP.out.max)
  obtain ⟨rs, hrs⟩ : ∃ rs, (⟨(runsB ⟨W, H, xs⟩).toArray⟩ : ByteArray) = rs := ⟨_, rfl⟩
  obtain ⟨ds, hds⟩ : ∃ ds, (⟨(drawRows W xs H).toArray⟩ : ByteArray) = ds := ⟨_, rfl⟩
  rw [hrs] at RR SR
  rw [hds] at RD SD
  have RS := hide' hrs
  have DS := hide' hds
  obtain ⟨dp, hdp⟩ : ∃ dp, drawnP W H xs = dp := ⟨_, rfl⟩
  have DP := hide' (show drawS ds = .inl (dp.W, dp.H, dp.xs) by rw [RD.out, ← hdp]; rfl)
  have DM := hide' (show dp.xs.length ≤ maxLen by rw [← hdp]; exact MP.out)
  have T0 := hide' (show alikeB ⟨W, H, xs⟩ ⟨dp.W, dp.H, dp.xs⟩ = false by rw [← hdp]; exact ht0)
  have S0 := hide' (alikeB_self ⟨W, H, xs⟩)
  have HK := hide' hk
  clear hk
  clear hP hT hs hn hrs hds hdp lW lH hc hcm ht0
  have C0 := hide' (Below.refl w1.heap.size w1)
  obtain ⟨x0, x1, x2, -⟩ := BX.out
  go_enter Tryd.func8, Tryd.ntmps8
  go_wp2_with fail
  refine (parseRuns_ok factS ⟨2, 1, [0, 1]⟩ _ (by decide) fact_runs).mono ?_
  rintro e w2 ⟨v2, rfl, t2, f2, b⟩
  have C1 := hide' (C0.out.trans (b.mono C0.out.size))
  obtain ⟨a2, c2, rfl, -⟩ := t2.arg (by decide)
  clear hw1
  have C1' := hide' (C1.out.alloc C1.out.size (.cells #[.int .i64 2, .int .i64 1, .slice a2 2 c2] 51))
  clear C1
  have C1 := C1'
  clear C1'
  have Q0 := hide' (PV.new (q := ⟨2, 1, [0, 1]⟩) t2 51)
  obtain ⟨gq, hgq, q3, q4⟩ := fact_cell t2
  subst hgq
  clear t2 f2
  clear b x0 x1 x2 C0
  obtain ⟨x0, x1, x2, -⟩ := BX.out.next C1.out
  obtain ⟨q0, q1, q2, -⟩ := Q0.out.tb
  go_wp2_with fail
  refine (pRuns W H xs a xs.length c _ (AP.out.below C1.out) (HT.out.below C1.out) HC.out HCM.out LW.out LH.out HS.out HN.out).mono ?_
  rw [RS.out]
  rintro e w3 ⟨rfl, b⟩
  clear Q0
  have C2 := hide' (C1.out.trans (b.mono C1.out.size))
  clear q0 q1 q2 q3 q4
  clear b x0 x1 x2 C1
  obtain ⟨x0, x1, x2, -⟩ := BX.out.next C2.out
  go_wp2_with fail
  refine (parseRuns_ok rs ⟨W, H, xs⟩ _ SR.out RR.out).mono ?_
  rintro e w4 ⟨v4, rfl, t4, f4, b⟩
  have C3 := hide' (C2.out.trans (b.mono C2.out.size))
  obtain ⟨a4, c4, rfl, -⟩ := t4.arg MP.out
  have C3' := hide' (C3.out.alloc C3.out.size (.cells #[.int .i64 (W : Int), .int .i64 (H : Int), .slice a4 xs.length c4] 51))
  clear C3
  have C3 := C3'
  clear C3'
  have Z := hide' (PV.new (q := ⟨W, H, xs⟩) t4 51)
  clear t4 f4
  have HZ := hide' (show w1.heap.size ≤ w4.heap.size from (C2.out.trans (b.mono C2.out.size)).size)
  have ZB := hide' (show BoxZ _ _ from ⟨_, _, _, Z.out.tb⟩)
  clear b x0 x1 x2 C2
  obtain ⟨x0, x1, x2, -⟩ := BX.out.next C3.out
  obtain ⟨_, _, e0, ap⟩ := Z.out.tab.arg MP.out
  injection e0 with e1 _ e2
  subst e1 e2
  have AZ := hide' ap
  clear ap
  obtain ⟨q0, q1, q2, -⟩ := Z.out.tb
  go_wp2_with fail
  refine (back_P W H W H xs xs a _ c _ _ (AP.out.below C3.out) AZ.out).mono ?_
  rw [S0.out]
  rintro e w5 ⟨rfl, b⟩
  clear q0 q1 q2
  clear Z
  have C4 := hide' (C3.out.trans (b.mono C3.out.size))
  have ZB' := hide' (ZB.out.next b)
  clear ZB
  have ZB := ZB'
  clear ZB'
  clear AZ
  clear b x0 x1 x2 C3
  obtain ⟨x0, x1, x2, -⟩ := BX.out.next C4.out
  go_wp2_with fail
  refine (pDraw W H xs a xs.length c _ (AP.out.below C4.out) HC.out HCM.out LW.out LH.out HS.out HN.out).mono ?_
  rw [DS.out]
  rintro e w6 ⟨rfl, b⟩
  have C5 := hide' (C4.out.trans (b.mono C4.out.size))
  have ZB' := hide' (ZB.out.next b)
  clear ZB
  have ZB := ZB'
  clear ZB'
  clear b x0 x1 x2 C4
  obtain ⟨x0, x1, x2, -⟩ := BX.out.next C5.out
  go_wp2_with fail
  refine (parseDraw_ok ds dp _ SD.out DP.out).mono ?_
  rintro e w7 ⟨v7, rfl, t7, f7, b⟩
  have zl := ZB.out.lt
  have C6 := hide' (C5.out.trans (b.mono C5.out.size))
  have ZB' := hide' (ZB.out.next b)
  clear ZB
  have ZB := ZB'
  clear ZB'
  obtain ⟨a7, c7, rfl, -⟩ := t7.arg DM.out
  have C6' := hide' (below_stored C6.out (w4.heap.size) HZ.out (.int .i64 (dp.W : Int)) (.int .i64 (dp.H : Int)) (.slice a7 dp.xs.length c7))
  clear C6
  have C6 := C6'
  clear C6'
  have ZD := hide' (BoxZ.put (q := dp) ZB.out t7 (fun g k c e => by have := f7 g k c e; omega))
  obtain ⟨za, zb, zc, z0, z1, z2, zf⟩ := ZB.out
  have g0 := zf 0
  have g1 := zf 1
  have g2 := zf 2
  clear zl ZB zf t7 f7
  clear b x0 x1 x2 C5
  obtain ⟨x0, x1, x2, -⟩ := BX.out.next C6.out
  obtain ⟨y0, y1, y2, -⟩ := ZD.out.tb
  obtain ⟨_, _, e0, ap⟩ := ZD.out.tab.arg DM.out
  injection e0 with e1 _ e2
  subst e1 e2
  have AZ := hide' ap
  clear ap
  go_wp2_with fail
  refine (back_P W H dp.W dp.H xs dp.xs a _ c _ _ (AP.out.below C6.out) AZ.out).mono ?_
  rw [T0.out]
  rintro e w8 ⟨rfl, b⟩
  have C7 := hide' (C6.out.trans (b.mono C6.out.size))
  clear AZ ZD y0 y1 y2 z0 z1 z2 g0 g1 g2
  clear b x0 x1 x2 C6
  obtain ⟨x0, x1, x2, -⟩ := BX.out.next C7.out
  go_wp2_with fail
  refine (pTurn_k W H k xs a xs.length c _ (AP.out.below C7.out) HS.out HK.out).mono ?_
  unfold ErrPost
  rintro e w9 ⟨rfl, b⟩
  have C8 := hide' (C7.out.trans (b.mono C7.out.size))
  clear b x0 x1 x2 C7
  obtain ⟨x0, x1, x2, -⟩ := BX.out.next C8.out
  go_wp2
  go_ret
  exact ⟨rfl, BB.out.trans ((C8.out.alloc C8.out.size _).mono BB.out.size)⟩
end Go.Proofs.YtjngjnkecnnmeaaDoor

namespace Go.Proofs.YtjngjnkecnnmeaaDoor
open Go.RowKit
set_option linter.unusedVariables false

set_option maxRecDepth 100000 in
set_option maxHeartbeats 12800000 in
theorem law_back_ok_t_lo (W H : Nat) (k : Nat) (xs : List Int) (a : Option Addr) (c : Nat) (w : World) (hP : ArgP w xs a xs.length c) (hT : PowT w) (hc : xs.length ≤ c) (hcm : c ≤ maxLen) (lW : W ≤ 100) (lH : H ≤ 100) (hs : shapeF W H xs = 0) (hn : xs.length = W * H) (hk : k < 8) (ht0 : alikeB ⟨W, H, xs⟩ (drawnP W H xs) = true) (k4 : (k : Int) < 4) :
    Calls Tryd.prog 8 #[.agg #[.int .i64 (W : Int), .int .i64 (H : Int), .slice a xs.length c], .int .i64 (k : Int)] w fun e w' => e = .returned (.bool true) ∧ Below w.heap.size w w' := by
  obtain ⟨w1, hw1⟩ : ∃ w1, w.alloc (.cells #[.int .i64 (W : Int), .int .i64 (H : Int), .slice a xs.length c] 51) = w1 := ⟨_, rfl⟩
  have AP := hide' (show ArgP w1 xs a xs.length c by rw [← hw1]; exact hP.alloc _)
  have BX := hide' (show TB w.heap.size (.int .i64 (W : Int)) (.int .i64 (H : Int)) (.slice a xs.length c) w1 by rw [← hw1]; exact TB.new w _ _ _ _)
  have BB := hide' (show Below w.heap.size w w1 by rw [← hw1]; exact (Below.refl _ _).alloc (Nat.le_refl _) _)
  have HS := hide' hs
  have HT := hide' (hT.below BB.out)
  have HN := hide' hn
  have LW := hide' lW
  have LH := hide' lH
  have HC := hide' hc
  have HCM := hide' hcm
  have OK := hide' (show Pat.ok ⟨W, H, xs⟩ from hn)
  have BT := hide' (shape_bits01 hs)
  have RR := hide' (runs_back W H xs lW lH hn BT.out)
  have RD := hide' (draw_back W H xs lW lH hn BT.out)
  have SR := hide' (runs_size W H xs lW lH)
  have SD := hide' (draw_size W H xs lW lH)
  unfold txt at RR RD
  have FP := hide' (show Fits xs.length ⟨W, H, xs⟩ from ⟨OK.out, lW, lH, rfl⟩)
  have MP := hide' (show xs.length ≤ maxLen from FP.out.max)
  obtain ⟨rs, hrs⟩ : ∃ rs, (⟨(runsB ⟨W, H, xs⟩).toArray⟩ : ByteArray) = rs := ⟨_, rfl⟩
  obtain ⟨ds, hds⟩ : ∃ ds, (⟨(drawRows W xs H).toArray⟩ : ByteArray) = ds := ⟨_, rfl⟩
  rw [hrs] at RR SR
  rw [hds] at RD SD
  have RS := hide' hrs
  have DS := hide' hds
  obtain ⟨dp, hdp⟩ : ∃ dp, drawnP W H xs = dp := ⟨_, rfl⟩
  have DP := hide' (show drawS ds = .inl (dp.W, dp.H, dp.xs) by rw [RD.out, ← hdp]; rfl)
  have DM := hide' (show dp.xs.length ≤ maxLen by rw [← hdp]; exact MP.out)
  have T0 := hide' (show alikeB ⟨W, H, xs⟩ ⟨dp.W, dp.H, dp.xs⟩ = true by rw [← hdp]; exact ht0)
  have S0 := hide' (alikeB_self ⟨W, H, xs⟩)
  obtain ⟨up, hup⟩ : ∃ up, Pat.turn ⟨W, H, xs⟩ k = up := ⟨_, rfl⟩
  have UP := hide' hup
  have FU := hide' (turn_fits FP.out k hk)
  rw [hup] at FU
  have UB := hide' (show shapeF up.W up.H up.xs = 0 by rw [← hup]; exact turn_shape hs lW lH hn hk)
  have UU := hide' (show up.turn (undo k) = ⟨W, H, xs⟩ by rw [← hup]; exact turn_undo _ OK.out k hk)
  have UK := hide' (undo_lt hk)
  obtain ⟨cp, hcp⟩ : ∃ cp, canonP ⟨W, H, xs⟩ = cp := ⟨_, rfl⟩
  have CP := hide' hcp
  have CU := hide' (show canonP up = cp by rw [← hup, canon_turn _ k hk, hcp])
  have FT := hide' (trim_fits ⟨W, H, xs⟩ lW lH)
  have FC := hide' (show Fits (trimP ⟨W, H, xs⟩).1.xs.length (canonP ⟨W, H, xs⟩) from best_fits FT.out 7 (by omega))
  rw [hcp] at FC
  have i1 : ¬ (k : Int) < 0 := by omega
  have i2 : (k : Int) < 8 := by omega
  obtain ⟨j, hj⟩ : ∃ j, undo k = j := ⟨_, rfl⟩
  rw [hj] at UU UK
  have HJ := hide' hj
  have S1 := hide' (alikeB_self cp)
  have HK := hide' hk
  clear hup hcp hj hk
  clear hP hT hs hn hrs hds hdp lW lH hc hcm ht0
  have C0 := hide' (Below.refl w1.heap.size w1)
  obtain ⟨x0, x1, x2, -⟩ := BX.out
  go_enter Tryd.func8, Tryd.ntmps8
  go_wp2_with fail
  refine (parseRuns_ok factS ⟨2, 1, [0, 1]⟩ _ (by decide) fact_runs).mono ?_
  rintro e w2 ⟨v2, rfl, t2, f2, b⟩
  have C1 := hide' (C0.out.trans (b.mono C0.out.size))
  obtain ⟨a2, c2, rfl, -⟩ := t2.arg (by decide)
  clear hw1
  have C1' := hide' (C1.out.alloc C1.out.size (.cells #[.int .i64 2, .int .i64 1, .slice a2 2 c2] 51))
  clear C1
  have C1 := C1'
  clear C1'
  have Q0 := hide' (PV.new (q := ⟨2, 1, [0, 1]⟩) t2 51)
  obtain ⟨gq, hgq, q3, q4⟩ := fact_cell t2
  subst hgq
  clear t2 f2
  clear b x0 x1 x2 C0
  obtain ⟨x0, x1, x2, -⟩ := BX.out.next C1.out
  obtain ⟨q0, q1, q2, -⟩ := Q0.out.tb
  go_wp2_with fail
  refine (pRuns W H xs a xs.length c _ (AP.out.below C1.out) (HT.out.below C1.out) HC.out HCM.out LW.out LH.out HS.out HN.out).mono ?_
  rw [RS.out]
  rintro e w3 ⟨rfl, b⟩
  clear Q0
  have C2 := hide' (C1.out.trans (b.mono C1.out.size))
  clear q0 q1 q2 q3 q4
  clear b x0 x1 x2 C1
  obtain ⟨x0, x1, x2, -⟩ := BX.out.next C2.out
  go_wp2_with fail
  refine (parseRuns_ok rs ⟨W, H, xs⟩ _ SR.out RR.out).mono ?_
  rintro e w4 ⟨v4, rfl, t4, f4, b⟩
  have C3 := hide' (C2.out.trans (b.mono C2.out.size))
  obtain ⟨a4, c4, rfl, -⟩ := t4.arg MP.out
  have C3' := hide' (C3.out.alloc C3.out.size (.cells #[.int .i64 (W : Int), .int .i64 (H : Int), .slice a4 xs.length c4] 51))
  clear C3
  have C3 := C3'
  clear C3'
  have Z := hide' (PV.new (q := ⟨W, H, xs⟩) t4 51)
  clear t4 f4
  have HZ := hide' (show w1.heap.size ≤ w4.heap.size from (C2.out.trans (b.mono C2.out.size)).size)
  have ZB := hide' (show BoxZ _ _ from ⟨_, _, _, Z.out.tb⟩)
  clear b x0 x1 x2 C2
  obtain ⟨x0, x1, x2, -⟩ := BX.out.next C3.out
  obtain ⟨_, _, e0, ap⟩ := Z.out.tab.arg MP.out
  injection e0 with e1 _ e2
  subst e1 e2
  have AZ := hide' ap
  clear ap
  obtain ⟨q0, q1, q2, -⟩ := Z.out.tb
  go_wp2_with fail
  refine (back_P W H W H xs xs a _ c _ _ (AP.out.below C3.out) AZ.out).mono ?_
  rw [S0.out]
  rintro e w5 ⟨rfl, b⟩
  clear q0 q1 q2
  clear Z
  have C4 := hide' (C3.out.trans (b.mono C3.out.size))
  have ZB' := hide' (ZB.out.next b)
  clear ZB
  have ZB := ZB'
  clear ZB'
  clear AZ
  clear b x0 x1 x2 C3
  obtain ⟨x0, x1, x2, -⟩ := BX.out.next C4.out
  go_wp2_with fail
  refine (pDraw W H xs a xs.length c _ (AP.out.below C4.out) HC.out HCM.out LW.out LH.out HS.out HN.out).mono ?_
  rw [DS.out]
  rintro e w6 ⟨rfl, b⟩
  have C5 := hide' (C4.out.trans (b.mono C4.out.size))
  have ZB' := hide' (ZB.out.next b)
  clear ZB
  have ZB := ZB'
  clear ZB'
  clear b x0 x1 x2 C4
  obtain ⟨x0, x1, x2, -⟩ := BX.out.next C5.out
  go_wp2_with fail
  refine (parseDraw_ok ds dp _ SD.out DP.out).mono ?_
  rintro e w7 ⟨v7, rfl, t7, f7, b⟩
  have zl := ZB.out.lt
  have C6 := hide' (C5.out.trans (b.mono C5.out.size))
  have ZB' := hide' (ZB.out.next b)
  clear ZB
  have ZB := ZB'
  clear ZB'
  obtain ⟨a7, c7, rfl, -⟩ := t7.arg DM.out
  have C6' := hide' (below_stored C6.out (w4.heap.size) HZ.out (.int .i64 (dp.W : Int)) (.int .i64 (dp.H : Int)) (.slice a7 dp.xs.length c7))
  clear C6
  have C6 := C6'
  clear C6'
  have ZD := hide' (BoxZ.put (q := dp) ZB.out t7 (fun g k c e => by have := f7 g k c e; omega))
  obtain ⟨za, zb, zc, z0, z1, z2, zf⟩ := ZB.out
  have g0 := zf 0
  have g1 := zf 1
  have g2 := zf 2
  clear zl ZB zf t7 f7
  clear b x0 x1 x2 C5
  obtain ⟨x0, x1, x2, -⟩ := BX.out.next C6.out
  obtain ⟨y0, y1, y2, -⟩ := ZD.out.tb
  obtain ⟨_, _, e0, ap⟩ := ZD.out.tab.arg DM.out
  injection e0 with e1 _ e2
  subst e1 e2
  have AZ := hide' ap
  clear ap
  go_wp2_with fail
  refine (back_P W H dp.W dp.H xs dp.xs a _ c _ _ (AP.out.below C6.out) AZ.out).mono ?_
  rw [T0.out]
  rintro e w8 ⟨rfl, b⟩
  have C7 := hide' (C6.out.trans (b.mono C6.out.size))
  clear AZ ZD y0 y1 y2 z0 z1 z2 g0 g1 g2
  clear b x0 x1 x2 C6
  obtain ⟨x0, x1, x2, -⟩ := BX.out.next C7.out
  go_wp2_with fail
  refine (pTurn_ok' W H k xs a c _ (AP.out.below C7.out) OK.out LW.out LH.out HS.out HK.out).mono ?_
  rintro e w9 ⟨v9, rfl, t9, f9, b⟩
  have C8 := hide' (C7.out.trans (b.mono C7.out.size))
  rw [UP.out] at t9 ⊢
  obtain ⟨a9, c9, rfl, -⟩ := t9.arg FU.out.max
  have C8' := hide' (C8.out.alloc C8.out.size (.cells #[.int .i64 (up.W : Int), .int .i64 (up.H : Int), .slice a9 up.xs.length c9] 51))
  clear C8
  have C8 := C8'
  clear C8'
  have U := hide' (PV.new (q := up) t9 51)
  have CL := hide' (FreshC.caps f9 t9 rfl)
  clear t9 f9
  clear b x0 x1 x2 C7
  obtain ⟨x0, x1, x2, -⟩ := BX.out.next C8.out
  obtain ⟨_, _, e0, ap⟩ := U.out.tab.arg FU.out.max
  injection e0 with e1 _ e2
  subst e1 e2
  have AU := hide' ap
  clear ap
  obtain ⟨q0, q1, q2, -⟩ := U.out.tb
  go_wp2_with fail
  refine (pTurn_at up.W up.H j _ up.xs _ _ _ AU.out FU.out.ok FU.out.w FU.out.h UB.out UK.out (by have h := HJ.out; unfold undo at h; split at h <;> omega)).mono ?_
  rintro e w10 ⟨v10, rfl, t10, f10, b⟩
  clear q0 q1 q2
  have C9 := hide' (C8.out.trans (b.mono C8.out.size))
  have U' := hide' (U.out.next b)
  clear U
  have U := U'
  clear U'
  rw [UU.out] at t10 ⊢
  obtain ⟨a10, c10, rfl, -⟩ := t10.arg MP.out
  have AU' := hide' (AU.out.below b)
  clear AU
  have C9' := hide' (C9.out.alloc C9.out.size (.cells #[.int .i64 (W : Int), .int .i64 (H : Int), .slice a10 xs.length c10] 51))
  clear C9
  have C9 := C9'
  clear C9'
  have U' := hide' (U.out.alloc (.cells #[.int .i64 (W : Int), .int .i64 (H : Int), .slice a10 xs.length c10] 51))
  clear U
  have U := U'
  clear U'
  have V := hide' (PV.new (q := ⟨W, H, xs⟩) t10 51)
  clear t10 f10
  clear b x0 x1 x2 C8
  obtain ⟨x0, x1, x2, -⟩ := BX.out.next C9.out
  obtain ⟨_, _, e0, ap⟩ := V.out.tab.arg MP.out
  injection e0 with e1 _ e2
  subst e1 e2
  have AV := hide' ap
  clear ap
  obtain ⟨q0, q1, q2, -⟩ := V.out.tb
  go_wp2_with fail
  refine (back_P W H W H xs xs a _ c _ _ (AP.out.below C9.out) AV.out).mono ?_
  rw [S0.out]
  rintro e w11 ⟨rfl, b⟩
  clear q0 q1 q2
  clear V
  have C10 := hide' (C9.out.trans (b.mono C9.out.size))
  have U' := hide' (U.out.next b)
  clear U
  have U := U'
  clear U'
  clear AV
  clear b x0 x1 x2 C9
  obtain ⟨x0, x1, x2, -⟩ := BX.out.next C10.out
  go_wp2_with fail
  refine (pCanon W H xs a xs.length c _ (AP.out.below C10.out) HC.out HCM.out LW.out LH.out HS.out HN.out).mono ?_
  rintro e w12 ⟨v12, rfl, t12, f12, b⟩
  have C11 := hide' (C10.out.trans (b.mono C10.out.size))
  have U' := hide' (U.out.next b)
  clear U
  have U := U'
  clear U'
  rw [CP.out] at t12 ⊢
  obtain ⟨a12, c12, rfl, -⟩ := t12.arg FC.out.max
  have C11' := hide' (C11.out.alloc C11.out.size (.cells #[.int .i64 (cp.W : Int), .int .i64 (cp.H : Int), .slice a12 cp.xs.length c12] 51))
  clear C11
  have C11 := C11'
  clear C11'
  have U' := hide' (U.out.alloc (.cells #[.int .i64 (cp.W : Int), .int .i64 (cp.H : Int), .slice a12 cp.xs.length c12] 51))
  clear U
  have U := U'
  clear U'
  have A := hide' (PV.new (q := cp) t12 51)
  clear t12 f12
  clear b x0 x1 x2 C10
  obtain ⟨x0, x1, x2, -⟩ := BX.out.next C11.out
  obtain ⟨au, cu, e0, ap⟩ := U.out.tab.arg FU.out.max
  injection e0 with e1 _ e2
  subst e1 e2
  have AU := hide' ap
  clear ap AU'
  obtain ⟨q0, q1, q2, -⟩ := U.out.tb
  go_wp2_with fail
  refine (pCanon up.W up.H up.xs _ up.xs.length _ _ AU.out CL.out.1 CL.out.2 FU.out.w FU.out.h UB.out FU.out.ok).mono ?_
  rintro e w13 ⟨v13, rfl, t13, f13, b⟩
  clear q0 q1 q2
  clear U
  have C12 := hide' (C11.out.trans (b.mono C11.out.size))
  have A' := hide' (A.out.next b)
  clear A
  have A := A'
  clear A'
  rw [CU.out] at t13 ⊢
  obtain ⟨a13, c13, rfl, -⟩ := t13.arg FC.out.max
  clear AU
  have C12' := hide' (C12.out.alloc C12.out.size (.cells #[.int .i64 (cp.W : Int), .int .i64 (cp.H : Int), .slice a13 cp.xs.length c13] 51))
  clear C12
  have C12 := C12'
  clear C12'
  have A' := hide' (A.out.alloc (.cells #[.int .i64 (cp.W : Int), .int .i64 (cp.H : Int), .slice a13 cp.xs.length c13] 51))
  clear A
  have A := A'
  clear A'
  have B := hide' (PV.new (q := cp) t13 51)
  clear t13 f13
  clear b x0 x1 x2 C11
  obtain ⟨x0, x1, x2, -⟩ := BX.out.next C12.out
  obtain ⟨q0, q1, q2, -⟩ := A.out.tb
  obtain ⟨y0, y1, y2, -⟩ := B.out.tb
  go_wp2_with fail
  refine (Alike_same cp.W cp.H _ _ cp.xs _ A.out.tab B.out.tab FC.out.max).mono ?_
  rintro e w14 ⟨rfl, b⟩
  clear q0 q1 q2
  clear y0 y1 y2
  clear A
  clear B
  have C13 := hide' (C12.out.trans (b.mono C12.out.size))
  clear b x0 x1 x2 C12
  obtain ⟨x0, x1, x2, -⟩ := BX.out.next C13.out
  go_wp2
  go_ret
  exact ⟨rfl, BB.out.trans (C13.out.mono BB.out.size)⟩
end Go.Proofs.YtjngjnkecnnmeaaDoor

