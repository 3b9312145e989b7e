/-
  What the last text of this claim leans on, part 41: Pa11.
-/
import Derived.Test.YtjngjnkecnnmeaaDoorJb9
namespace Go.Proofs.YtjngjnkecnnmeaaDoor
open Go.RowKit
set_option linter.unusedVariables false

theorem mAll_0 (s : ByteArray) (w : World) (a : Act) (w' : World) : mAll s w 0 a w' = 0 := rfl
theorem mAll_2 (s : ByteArray) (w : World) (a : Act) (w' : World) : mAll s w 2 a w' = 1 := rfl
theorem mAll_1 (s : ByteArray) (w : World) (a : Act) (w' : World) : mAll s w 1 a w' = 2 + (s.size - posOf (w.heap.size + 1) w') := rfl

theorem jumps_ret (J : Nat → Act → World → Prop) (Q : Exit → Act → World → Prop) (a : Act) (w : World) : jumps J Q .ret a w = Q .ret a w := rfl
theorem below_res {w wr : World} (h : Below (w.heap.size + 1) (resW w) wr) : Below w.heap.size w wr :=
  (show Below w.heap.size w (resW w) from (Below.refl _ _).alloc (Nat.le_refl _) _).trans (h.mono (by omega))

def rv0 : Rv := ⟨0, 0, 0, 0, .slice none 0 0, 0, 0, 0, 0⟩
theorem rat_new (w : World) (s : ByteArray) (t : TypeId) : RAt w.heap.size s rv0 (w.alloc (.cells #[.string s, .int .i64 0, .int .i64 0, .int .i64 0, .int .i64 0, .slice none 0 0, .int .i64 0, .int .i64 0, .int .i64 0, .int .i64 0] t)) := by
  refine ⟨fun k hk => ?_, fun k hk => by simp⟩
  rw [World.cell?_alloc_at _ _ _ _ rfl]
  match k, hk with
  | 0, _ => rfl
  | 1, _ => rfl
  | 2, _ => rfl
  | 3, _ => rfl
  | 4, _ => rfl
  | 5, _ => rfl
  | 6, _ => rfl
  | 7, _ => rfl
  | 8, _ => rfl
  | 9, _ => rfl

set_option maxRecDepth 100000 in
set_option maxHeartbeats 6400000 in
theorem pParseRuns (s : ByteArray) (w : World) (hs : s.size ≤ 40000) :
    Calls Tryd.prog 39 #[.string s] w (RunsPost s w) := by
  have n1 : ¬ (40000 : Int) < (s.size : Int) := by omega
  go_enter Tryd.func39, Tryd.ntmps39
  go_wp2
  refine wp_scope_labels (JAll s w) (mAll s w) ?_ ?_
  · have A0 := hide' (rat_new (resW w) s 115)
    rw [resW_size] at A0
    go_wp2_with fail
    refine (pheader (w.heap.size + 1) s rv0 _ A0.out rfl hs).mono ?_
    have B0 := hide' (show Below (w.heap.size + 1) (resW w) ((resW w).alloc (.cells #[.string s, .int .i64 0, .int .i64 0, .int .i64 0, .int .i64 0, .slice none 0 0, .int .i64 0, .int .i64 0, .int .i64 0, .int .i64 0] 115)) from (Below.refl _ _).alloc (by rw [resW_size]; omega) _)
    rintro e wr (⟨W, H, k, g, hh, rfl, a1, hg, C1, r1, lk, lW, lH⟩ | ⟨a, f, hh, rfl, a1, r1⟩)
    · have jc : JCells s w wr { rv0 with i := k, wd := (W : Int), hi := (H : Int), cs := .slice (some ⟨g, 0, none⟩) (W * H) (W * H) } W H g (List.replicate (W * H) 0) :=
        ⟨a1, rfl, rfl, rfl, C1, by simp, by simp [resW] at hg; omega, lW, lH, lk, B0.out.trans (r1.below (Nat.le_refl _) (by simp [resW]))⟩
      have hF0 : fin2 W H (tagsF s W H (s.size + 1 - k) k 0 0 (List.replicate (W * H) 0)) = runsS s := by
        unfold runsS
        rw [if_neg (by omega), hh]
        dsimp only
        cases tagsF s W H (s.size + 1 - k) k 0 0 (List.replicate (W * H) 0) <;> rfl
      obtain ⟨v, x, y, xs, hx, hy, hxw, hyh, jc, hF⟩ : ∃ (v : Rv) (x y : Nat) (xs : List Int), v.rt = (x : Int) ∧ v.dn = (y : Int) ∧ x ≤ W ∧ y ≤ H ∧ JCells s w wr v W H g xs ∧ fin2 W H (tagsF s W H (s.size + 1 - v.i) v.i x y xs) = runsS s :=
        ⟨_, 0, 0, _, rfl, rfl, by omega, by omega, jc, hF0⟩
      clear a1 hg C1 r1 lk hh hF0 A0 B0
      go_wp2_with fail
      go_step3
      have JC := hide' jc
      have hli := jc.li
      have hgb := jc.gb
      have hlw := jc.lw
      have hlh := jc.lh
      have VW := hide' jc.wd
      have VH := hide' jc.hi
      have VC := hide' jc.cs
      have VX := hide' hx
      have VY := hide' hy
      have HF := hide' hF
      clear jc hx hy hF
      go_wp2_with fail
      refine (pskip (w.heap.size + 1) s v _ JC.out.rat hli hs).mono ?_
      rintro e w2 ⟨rfl, a2, r2⟩
      have J2 := hide' (JC.out.rd a2 r2 rfl rfl rfl (sk_le hli))
      have R2 := hide' r2
      clear a2 r2
      go_wp2_with fail
      refine (pcount (w.heap.size + 1) s _ _ J2.out.rat (sk_le hli) hs).mono ?_
      rintro e w3 (⟨hb, rfl, a3, r3, hk⟩ | ⟨hb, rfl, ⟨t, a3⟩, r3⟩)
      rotate_left
      · have J3 := hide' (JWrong.mk' J2.out a3 r3 (sk s v.i) 2 rfl rfl (by rw [← HF.out, tagsF_bad hli (tag1_bad hb)]; rfl))
        clear a3 r3
        go_wp2
        go_step3
        exact ⟨⟨_, _, _, _, _, _, _, _, _, _, _, _, _, _, _, _, _, _, _, _, _, _, _, _, _, _, _, _, _, _, _, _, _, _, _, _, _, _, _, _, _, _, _, _, rfl⟩, Or.inl ⟨rfl, J3.out⟩⟩
      · have J3 := hide' (JC.out.rd (v' := { v with i := tagK s (sk s v.i), bg := (sk s v.i : Int), tm := (tagN s (sk s v.i) : Int) }) a3 (show Rd (w.heap.size + 1) wr w3 from (R2.out).trans r3) rfl rfl rfl hk)
        have HB := hide' (show tagBad s (sk s v.i) = false from hb)
        have hk' : tagK s (sk s v.i) ≤ s.size := hk
        have hn := tagN_lt HB.out
        clear a3 r3 hb hk
        go_wp2_with fail
        refine (pnext (w.heap.size + 1) s _ _ J3.out.rat hk').mono ?_
        rintro e w4 ⟨rfl, n, rfl⟩
        have J4 := hide' (J3.out.rd (J3.out.rat.drewN n) ((Rd.refl _ _).drewN n) rfl rfl rfl hk')
        clear J2 J3
        by_cases q98 : bt s (tagK s (sk s v.i)) = 98
        · have Q := hide' q98
          have n98 : ((bt s (tagK s (sk s v.i)) : Int) == 98) = true := by simp; omega
          have hlt := bt_pos (s := s) (i := tagK s (sk s v.i)) (by omega)
          clear q98
          go_wp2_with fail
          refine (pcells (w.heap.size + 1) g s _ xs _ (w.heap.size + 1) (sk s v.i) x y (tagN s (sk s v.i)) W H 0 J4.out.rat J4.out.cel hlt hs rfl VX.out VY.out rfl VW.out VH.out VC.out J4.out.len (by omega) (Nat.le_refl _) (by omega) hxw hyh hlw hlh hn).mono ?_
          rintro e w5 (⟨hc, rfl, a5, r5⟩ | ⟨hc, rfl, a5, C5, b5⟩)
          · have J5 := hide' (JWrong.mk' J4.out a5 r5 (sk s v.i) 1 rfl rfl (by rw [← HF.out, tagsF_bad hli (tag1_cells_bad HB.out hlt (Or.inl Q.out) hc)]; rfl))
            clear a5 r5
            go_wp2
            go_step3
            exact ⟨⟨_, _, _, _, _, _, _, _, _, _, _, _, _, _, _, _, _, _, _, _, _, _, _, _, _, _, _, _, _, _, _, _, _, _, _, _, _, _, _, _, _, _, _, _, rfl⟩, Or.inl ⟨rfl, J5.out⟩⟩
          · have J5 := hide' (J4.out.cells a5 b5 C5 (setRun_length _ _ _ _) rfl rfl rfl (show tagK s (sk s v.i) + 1 ≤ s.size by omega))
            have F5 := hide' (show fin2 W H (tagsF s W H (s.size + 1 - (tagK s (sk s v.i) + 1)) (tagK s (sk s v.i) + 1) (x + tagN s (sk s v.i)) y (setRun xs (y * W + x) (tagN s (sk s v.i)) 0)) = runsS s by rw [← HF.out, tagsF_on hli (tag1_cells_on 0 HB.out hlt (Or.inl Q.out) (by rw [Q.out]; simp) hc)])
            clear a5 C5 b5
            go_wp2
            go_step3
            exact ⟨⟨_, _, _, _, _, _, _, _, _, _, _, _, _, _, _, _, _, _, _, _, _, _, _, _, _, _, _, _, _, _, _, _, _, _, _, _, _, _, _, _, _, _, _, _, rfl⟩, Or.inr (Or.inl ⟨rfl, ⟨_, W, H, g, x + tagN s (sk s v.i), y, _, J5.out, rfl, VY.out, by omega, by omega, F5.out⟩⟩)⟩
        have n98 : ((bt s (tagK s (sk s v.i)) : Int) == 98) = false := by simp; omega
        by_cases q111 : bt s (tagK s (sk s v.i)) = 111
        · have Q := hide' q111
          have n111 : ((bt s (tagK s (sk s v.i)) : Int) == 111) = true := by simp; omega
          have hlt := bt_pos (s := s) (i := tagK s (sk s v.i)) (by omega)
          clear q98 q111
          go_wp2_with fail
          refine (pcells (w.heap.size + 1) g s _ xs _ (w.heap.size + 1) (sk s v.i) x y (tagN s (sk s v.i)) W H 1 J4.out.rat J4.out.cel hlt hs rfl VX.out VY.out rfl VW.out VH.out VC.out J4.out.len (by omega) (Nat.le_refl _) (by omega) hxw hyh hlw hlh hn).mono ?_
          rintro e w5 (⟨hc, rfl, a5, r5⟩ | ⟨hc, rfl, a5, C5, b5⟩)
          · have J5 := hide' (JWrong.mk' J4.out a5 r5 (sk s v.i) 1 rfl rfl (by rw [← HF.out, tagsF_bad hli (tag1_cells_bad HB.out hlt (Or.inr Q.out) hc)]; rfl))
            clear a5 r5
            go_wp2
            go_step3
            exact ⟨⟨_, _, _, _, _, _, _, _, _, _, _, _, _, _, _, _, _, _, _, _, _, _, _, _, _, _, _, _, _, _, _, _, _, _, _, _, _, _, _, _, _, _, _, _, rfl⟩, Or.inl ⟨rfl, J5.out⟩⟩
          · have J5 := hide' (J4.out.cells a5 b5 C5 (setRun_length _ _ _ _) rfl rfl rfl (show tagK s (sk s v.i) + 1 ≤ s.size by omega))
            have F5 := hide' (show fin2 W H (tagsF s W H (s.size + 1 - (tagK s (sk s v.i) + 1)) (tagK s (sk s v.i) + 1) (x + tagN s (sk s v.i)) y (setRun xs (y * W + x) (tagN s (sk s v.i)) 1)) = runsS s by rw [← HF.out, tagsF_on hli (tag1_cells_on 1 HB.out hlt (Or.inr Q.out) (by rw [Q.out]; simp) hc)])
            clear a5 C5 b5
            go_wp2
            go_step3
            exact ⟨⟨_, _, _, _, _, _, _, _, _, _, _, _, _, _, _, _, _, _, _, _, _, _, _, _, _, _, _, _, _, _, _, _, _, _, _, _, _, _, _, _, _, _, _, _, rfl⟩, Or.inr (Or.inl ⟨rfl, ⟨_, W, H, g, x + tagN s (sk s v.i), y, _, J5.out, rfl, VY.out, by omega, by omega, F5.out⟩⟩)⟩
        have n111 : ((bt s (tagK s (sk s v.i)) : Int) == 111) = false := by simp; omega
        by_cases q36 : bt s (tagK s (sk s v.i)) = 36
        · have Q := hide' q36
          have n36 : ((bt s (tagK s (sk s v.i)) : Int) == 36) = true := by simp; omega
          have hlt := bt_pos (s := s) (i := tagK s (sk s v.i)) (by omega)
          clear q98 q111 q36
          go_wp2_with fail
          refine (prows (w.heap.size + 1) s _ _ (sk s v.i) y (tagN s (sk s v.i)) H J4.out.rat hlt hs rfl VY.out rfl VH.out (by omega) hn).mono ?_
          rintro e w5 (⟨hc, rfl, a5, r5⟩ | ⟨hc, rfl, a5, r5⟩)
          · have J5 := hide' (JWrong.mk' J4.out a5 r5 (sk s v.i) 1 rfl rfl (by rw [← HF.out, tagsF_bad hli (tag1_rows_bad HB.out hlt Q.out hc)]; rfl))
            clear a5 r5
            go_wp2
            go_step3
            exact ⟨⟨_, _, _, _, _, _, _, _, _, _, _, _, _, _, _, _, _, _, _, _, _, _, _, _, _, _, _, _, _, _, _, _, _, _, _, _, _, _, _, _, _, _, _, _, rfl⟩, Or.inl ⟨rfl, J5.out⟩⟩
          · have J5 := hide' (J4.out.rd a5 r5 rfl rfl rfl (show tagK s (sk s v.i) + 1 ≤ s.size by omega))
            have F5 := hide' (show fin2 W H (tagsF s W H (s.size + 1 - (tagK s (sk s v.i) + 1)) (tagK s (sk s v.i) + 1) 0 (y + tagN s (sk s v.i)) xs) = runsS s by rw [← HF.out, tagsF_on hli (tag1_rows_on HB.out hlt Q.out hc)])
            clear a5 r5
            go_wp2
            go_step3
            exact ⟨⟨_, _, _, _, _, _, _, _, _, _, _, _, _, _, _, _, _, _, _, _, _, _, _, _, _, _, _, _, _, _, _, _, _, _, _, _, _, _, _, _, _, _, _, _, rfl⟩, Or.inr (Or.inl ⟨rfl, ⟨_, W, H, g, 0, y + tagN s (sk s v.i), xs, J5.out, rfl, rfl, by omega, by omega, F5.out⟩⟩)⟩
        have n36 : ((bt s (tagK s (sk s v.i)) : Int) == 36) = false := by simp; omega
        by_cases q33 : bt s (tagK s (sk s v.i)) = 33
        · have Q := hide' q33
          have n33 : ((bt s (tagK s (sk s v.i)) : Int) == 33) = true := by simp; omega
          have hlt := bt_pos (s := s) (i := tagK s (sk s v.i)) (by omega)
          clear q98 q111 q36 q33
          go_wp2_with fail
          refine (pend (w.heap.size + 1) s _ _ (sk s v.i) J4.out.rat hlt hs rfl).mono ?_
          rintro e w5 (⟨hc, rfl, a5, r5⟩ | ⟨hc, rfl, a5, r5⟩)
          · have J5 := hide' (JWrong.mk' J4.out a5 r5 (tagK s (sk s v.i)) 2 rfl rfl (by rw [← HF.out, tagsF_bad hli (tag1_end_bad HB.out hlt Q.out hc)]; rfl))
            clear a5 r5
            go_wp2
            go_step3
            exact ⟨⟨_, _, _, _, _, _, _, _, _, _, _, _, _, _, _, _, _, _, _, _, _, _, _, _, _, _, _, _, _, _, _, _, _, _, _, _, _, _, _, _, _, _, _, _, rfl⟩, Or.inl ⟨rfl, J5.out⟩⟩
          · have J5 := hide' (J4.out.rd a5 r5 rfl rfl rfl (show tagK s (sk s v.i) + 1 ≤ s.size by omega))
            have F5 := hide' (show fin3 s W H (tagK s (sk s v.i) + 1) xs = runsS s by rw [← HF.out, fin_end hli (tag1_end HB.out hlt Q.out hc)])
            clear a5 r5
            go_wp2
            go_step3
            exact ⟨⟨_, _, _, _, _, _, _, _, _, _, _, _, _, _, _, _, _, _, _, _, _, _, _, _, _, _, _, _, _, _, _, _, _, _, _, _, _, _, _, _, _, _, _, _, rfl⟩, Or.inr (Or.inr ⟨rfl, ⟨_, W, H, g, xs, J5.out, F5.out⟩⟩)⟩
        have n33 : ((bt s (tagK s (sk s v.i)) : Int) == 33) = false := by simp; omega
        have Q := hide' (And.intro q98 (And.intro q111 (And.intro q36 q33)))
        have c1 := J4.out.rat.ten.c1
        dsimp only at c1
        clear q98 q111 q36 q33
        go_wp2_with fail
        refine (pfail (w.heap.size + 1) s _ (tagK s (sk s v.i)) _ _ _ rfl J4.out.rat).mono ?_
        rintro e w5 ⟨rfl, a5, r5⟩
        have J5 := hide' (JWrong.mk' J4.out a5 r5 (tagK s (sk s v.i)) 2 rfl rfl (by rw [← HF.out, tagsF_bad hli (tag1_none HB.out Q.out.1 Q.out.2.1 Q.out.2.2.1 Q.out.2.2.2)]; rfl))
        clear a5 r5
        go_wp2
        go_step3
        exact ⟨⟨_, _, _, _, _, _, _, _, _, _, _, _, _, _, _, _, _, _, _, _, _, _, _, _, _, _, _, _, _, _, _, _, _, _, _, _, _, _, _, _, _, _, _, _, rfl⟩, Or.inl ⟨rfl, J5.out⟩⟩
    · have J1 : JWrong s w wr := ⟨⟨a, f, _, a1, rfl, rfl, by unfold runsS; rw [if_neg (by omega), hh]⟩, B0.out.trans (r1.below (Nat.le_refl _) (by simp [resW]))⟩
      clear a1 r1
      go_wp2
      go_step3
      exact ⟨⟨_, _, _, _, _, _, _, _, _, _, _, _, _, _, _, _, _, _, _, _, _, _, _, _, _, _, _, _, _, _, _, _, _, _, _, _, _, _, _, _, _, _, _, _, rfl⟩, Or.inl ⟨rfl, J1⟩⟩
  · rintro l a' wr ⟨⟨u6, u7, u8, u9, u10, u11, u12, u13, u14, u15, u16, u17, u18, u19, u20, u21, u22, u23, u24, u25, u26, u27, u28, u29, u30, u31, u32, u33, u34, u35, u36, u37, u38, u39, u40, u41, u42, u43, u44, u45, u46, u47, u48, u49, rfl⟩, hl⟩
    rcases hl with ⟨rfl, ⟨rr, ff, v, ra, ri, rf, re⟩, rb⟩ | ⟨rfl, ⟨v, W, H, g, x, y, xs, jc, hx, hy, hxw, hyh, hF⟩⟩ | ⟨rfl, ⟨v, W, H, g, xs, jc, hF⟩⟩
    · refine ⟨_, rfl, ?_⟩
      have x1 := ra.ten.c1
      have x2 := ra.ten.c2
      rw [ri] at x1
      rw [rf] at x2
      obtain ⟨y0, y1, y2, g0, g1, g2⟩ := (resW_res w).below (by rw [resW_size]; omega) rb
      have RB := hide' rb
      have RE := hide' re
      clear ra ri rf rb re
      go_wp2
      go_region
      go_wp2
      rw [jumps_ret]
      refine bodyPost_ret (v := .tuple #[.agg #[.int .i64 0, .int .i64 0, .slice none 0 0], .int .i64 (rr : Int), .iface 87 (.int .i64 (ff : Int))]) (by simp [results, Tryd.results39, go_sem, y0, y1, y2]) rfl ?_
      exact ⟨(((below_res RB.out).setCell (Nat.le_refl _) _).setCell (Nat.le_refl _) _ |>.setCell (Nat.le_refl _) _).trans ⟨rfl, rfl, rfl, Nat.le_refl _, fun _ _ => rfl⟩, Or.inr ⟨rr, ff, RE.out, rfl⟩⟩
    · refine ⟨_, rfl, ?_⟩
      have JC := hide' jc
      have hli := jc.li
      have hgb := jc.gb
      have hlw := jc.lw
      have hlh := jc.lh
      have VW := hide' jc.wd
      have VH := hide' jc.hi
      have VC := hide' jc.cs
      have VX := hide' hx
      have VY := hide' hy
      have HF := hide' hF
      clear jc hx hy hF
      go_wp2_with fail
      refine (pskip (w.heap.size + 1) s v _ JC.out.rat hli hs).mono ?_
      rintro e w2 ⟨rfl, a2, r2⟩
      have J2 := hide' (JC.out.rd a2 r2 rfl rfl rfl (sk_le hli))
      have R2 := hide' r2
      clear a2 r2
      go_wp2_with fail
      refine (pcount (w.heap.size + 1) s _ _ J2.out.rat (sk_le hli) hs).mono ?_
      rintro e w3 (⟨hb, rfl, a3, r3, hk⟩ | ⟨hb, rfl, ⟨t, a3⟩, r3⟩)
      rotate_left
      · have J3 := hide' (JWrong.mk' J2.out a3 r3 (sk s v.i) 2 rfl rfl (by rw [← HF.out, tagsF_bad hli (tag1_bad hb)]; rfl))
        clear a3 r3
        go_wp2
        go_step3
        exact ⟨⟨⟨_, _, _, _, _, _, _, _, _, _, _, _, _, _, _, _, _, _, _, _, _, _, _, _, _, _, _, _, _, _, _, _, _, _, _, _, _, _, _, _, _, _, _, _, rfl⟩, Or.inl ⟨rfl, J3.out⟩⟩, by rw [mAll_0, mAll_1]; omega⟩
      · have J3 := hide' (JC.out.rd (v' := { v with i := tagK s (sk s v.i), bg := (sk s v.i : Int), tm := (tagN s (sk s v.i) : Int) }) a3 (show Rd (w.heap.size + 1) wr w3 from (R2.out).trans r3) rfl rfl rfl hk)
        have HB := hide' (show tagBad s (sk s v.i) = false from hb)
        have hk' : tagK s (sk s v.i) ≤ s.size := hk
        have hn := tagN_lt HB.out
        clear a3 r3 hb hk
        go_wp2_with fail
        refine (pnext (w.heap.size + 1) s _ _ J3.out.rat hk').mono ?_
        rintro e w4 ⟨rfl, n, rfl⟩
        have J4 := hide' (J3.out.rd (J3.out.rat.drewN n) ((Rd.refl _ _).drewN n) rfl rfl rfl hk')
        clear J2 J3
        by_cases q98 : bt s (tagK s (sk s v.i)) = 98
        · have Q := hide' q98
          have n98 : ((bt s (tagK s (sk s v.i)) : Int) == 98) = true := by simp; omega
          have hlt := bt_pos (s := s) (i := tagK s (sk s v.i)) (by omega)
          clear q98
          go_wp2_with fail
          refine (pcells (w.heap.size + 1) g s _ xs _ (w.heap.size + 1) (sk s v.i) x y (tagN s (sk s v.i)) W H 0 J4.out.rat J4.out.cel hlt hs rfl VX.out VY.out rfl VW.out VH.out VC.out J4.out.len (by omega) (Nat.le_refl _) (by omega) hxw hyh hlw hlh hn).mono ?_
          rintro e w5 (⟨hc, rfl, a5, r5⟩ | ⟨hc, rfl, a5, C5, b5⟩)
          · have J5 := hide' (JWrong.mk' J4.out a5 r5 (sk s v.i) 1 rfl rfl (by rw [← HF.out, tagsF_bad hli (tag1_cells_bad HB.out hlt (Or.inl Q.out) hc)]; rfl))
            clear a5 r5
            go_wp2
            go_step3
            exact ⟨⟨⟨_, _, _, _, _, _, _, _, _, _, _, _, _, _, _, _, _, _, _, _, _, _, _, _, _, _, _, _, _, _, _, _, _, _, _, _, _, _, _, _, _, _, _, _, rfl⟩, Or.inl ⟨rfl, J5.out⟩⟩, by rw [mAll_0, mAll_1]; omega⟩
          · have J5 := hide' (J4.out.cells a5 b5 C5 (setRun_length _ _ _ _) rfl rfl rfl (show tagK s (sk s v.i) + 1 ≤ s.size by omega))
            have F5 := hide' (show fin2 W H (tagsF s W H (s.size + 1 - (tagK s (sk s v.i) + 1)) (tagK s (sk s v.i) + 1) (x + tagN s (sk s v.i)) y (setRun xs (y * W + x) (tagN s (sk s v.i)) 0)) = runsS s by rw [← HF.out, tagsF_on hli (tag1_cells_on 0 HB.out hlt (Or.inl Q.out) (by rw [Q.out]; simp) hc)])
            clear a5 C5 b5
            go_wp2
            go_step3
            refine ⟨⟨⟨_, _, _, _, _, _, _, _, _, _, _, _, _, _, _, _, _, _, _, _, _, _, _, _, _, _, _, _, _, _, _, _, _, _, _, _, _, _, _, _, _, _, _, _, rfl⟩, Or.inr (Or.inl ⟨rfl, ⟨_, W, H, g, x + tagN s (sk s v.i), y, _, J5.out, rfl, VY.out, by omega, by omega, F5.out⟩⟩)⟩, ?_⟩
            rw [mAll_1, mAll_1, J5.out.rat.posOf, JC.out.rat.posOf]
            have h1 := sk_ge s v.i
            have h2 := tagK_ge s (sk s v.i)
            dsimp only
            omega
        have n98 : ((bt s (tagK s (sk s v.i)) : Int) == 98) = false := by simp; omega
        by_cases q111 : bt s (tagK s (sk s v.i)) = 111
        · have Q := hide' q111
          have n111 : ((bt s (tagK s (sk s v.i)) : Int) == 111) = true := by simp; omega
          have hlt := bt_pos (s := s) (i := tagK s (sk s v.i)) (by omega)
          clear q98 q111
          go_wp2_with fail
          refine (pcells (w.heap.size + 1) g s _ xs _ (w.heap.size + 1) (sk s v.i) x y (tagN s (sk s v.i)) W H 1 J4.out.rat J4.out.cel hlt hs rfl VX.out VY.out rfl VW.out VH.out VC.out J4.out.len (by omega) (Nat.le_refl _) (by omega) hxw hyh hlw hlh hn).mono ?_
          rintro e w5 (⟨hc, rfl, a5, r5⟩ | ⟨hc, rfl, a5, C5, b5⟩)
          · have J5 := hide' (JWrong.mk' J4.out a5 r5 (sk s v.i) 1 rfl rfl (by rw [← HF.out, tagsF_bad hli (tag1_cells_bad HB.out hlt (Or.inr Q.out) hc)]; rfl))
            clear a5 r5
            go_wp2
            go_step3
            exact ⟨⟨⟨_, _, _, _, _, _, _, _, _, _, _, _, _, _, _, _, _, _, _, _, _, _, _, _, _, _, _, _, _, _, _, _, _, _, _, _, _, _, _, _, _, _, _, _, rfl⟩, Or.inl ⟨rfl, J5.out⟩⟩, by rw [mAll_0, mAll_1]; omega⟩
          · have J5 := hide' (J4.out.cells a5 b5 C5 (setRun_length _ _ _ _) rfl rfl rfl (show tagK s (sk s v.i) + 1 ≤ s.size by omega))
            have F5 := hide' (show fin2 W H (tagsF s W H (s.size + 1 - (tagK s (sk s v.i) + 1)) (tagK s (sk s v.i) + 1) (x + tagN s (sk s v.i)) y (setRun xs (y * W + x) (tagN s (sk s v.i)) 1)) = runsS s by rw [← HF.out, tagsF_on hli (tag1_cells_on 1 HB.out hlt (Or.inr Q.out) (by rw [Q.out]; simp) hc)])
            clear a5 C5 b5
            go_wp2
            go_step3
            refine ⟨⟨⟨_, _, _, _, _, _, _, _, _, _, _, _, _, _, _, _, _, _, _, _, _, _, _, _, _, _, _, _, _, _, _, _, _, _, _, _, _, _, _, _, _, _, _, _, rfl⟩, Or.inr (Or.inl ⟨rfl, ⟨_, W, H, g, x + tagN s (sk s v.i), y, _, J5.out, rfl, VY.out, by omega, by omega, F5.out⟩⟩)⟩, ?_⟩
            rw [mAll_1, mAll_1, J5.out.rat.posOf, JC.out.rat.posOf]
            have h1 := sk_ge s v.i
            have h2 := tagK_ge s (sk s v.i)
            dsimp only
            omega
        have n111 : ((bt s (tagK s (sk s v.i)) : Int) == 111) = false := by simp; omega
        by_cases q36 : bt s (tagK s (sk s v.i)) = 36
        · have Q := hide' q36
          have n36 : ((bt s (tagK s (sk s v.i)) : Int) == 36) = true := by simp; omega
          have hlt := bt_pos (s := s) (i := tagK s (sk s v.i)) (by omega)
          clear q98 q111 q36
          go_wp2_with fail
          refine (prows (w.heap.size + 1) s _ _ (sk s v.i) y (tagN s (sk s v.i)) H J4.out.rat hlt hs rfl VY.out rfl VH.out (by omega) hn).mono ?_
          rintro e w5 (⟨hc, rfl, a5, r5⟩ | ⟨hc, rfl, a5, r5⟩)
          · have J5 := hide' (JWrong.mk' J4.out a5 r5 (sk s v.i) 1 rfl rfl (by rw [← HF.out, tagsF_bad hli (tag1_rows_bad HB.out hlt Q.out hc)]; rfl))
            clear a5 r5
            go_wp2
            go_step3
            exact ⟨⟨⟨_, _, _, _, _, _, _, _, _, _, _, _, _, _, _, _, _, _, _, _, _, _, _, _, _, _, _, _, _, _, _, _, _, _, _, _, _, _, _, _, _, _, _, _, rfl⟩, Or.inl ⟨rfl, J5.out⟩⟩, by rw [mAll_0, mAll_1]; omega⟩
          · have J5 := hide' (J4.out.rd a5 r5 rfl rfl rfl (show tagK s (sk s v.i) + 1 ≤ s.size by omega))
            have F5 := hide' (show fin2 W H (tagsF s W H (s.size + 1 - (tagK s (sk s v.i) + 1)) (tagK s (sk s v.i) + 1) 0 (y + tagN s (sk s v.i)) xs) = runsS s by rw [← HF.out, tagsF_on hli (tag1_rows_on HB.out hlt Q.out hc)])
            clear a5 r5
            go_wp2
            go_step3
            refine ⟨⟨⟨_, _, _, _, _, _, _, _, _, _, _, _, _, _, _, _, _, _, _, _, _, _, _, _, _, _, _, _, _, _, _, _, _, _, _, _, _, _, _, _, _, _, _, _, rfl⟩, Or.inr (Or.inl ⟨rfl, ⟨_, W, H, g, 0, y + tagN s (sk s v.i), xs, J5.out, rfl, rfl, by omega, by omega, F5.out⟩⟩)⟩, ?_⟩
            rw [mAll_1, mAll_1, J5.out.rat.posOf, JC.out.rat.posOf]
            have h1 := sk_ge s v.i
            have h2 := tagK_ge s (sk s v.i)
            dsimp only
            omega
        have n36 : ((bt s (tagK s (sk s v.i)) : Int) == 36) = false := by simp; omega
        by_cases q33 : bt s (tagK s (sk s v.i)) = 33
        · have Q := hide' q33
          have n33 : ((bt s (tagK s (sk s v.i)) : Int) == 33) = true := by simp; omega
          have hlt := bt_pos (s := s) (i := tagK s (sk s v.i)) (by omega)
          clear q98 q111 q36 q33
          go_wp2_with fail
          refine (pend (w.heap.size + 1) s _ _ (sk s v.i) J4.out.rat hlt hs rfl).mono ?_
          rintro e w5 (⟨hc, rfl, a5, r5⟩ | ⟨hc, rfl, a5, r5⟩)
          · have J5 := hide' (JWrong.mk' J4.out a5 r5 (tagK s (sk s v.i)) 2 rfl rfl (by rw [← HF.out, tagsF_bad hli (tag1_end_bad HB.out hlt Q.out hc)]; rfl))
            clear a5 r5
            go_wp2
            go_step3
            exact ⟨⟨⟨_, _, _, _, _, _, _, _, _, _, _, _, _, _, _, _, _, _, _, _, _, _, _, _, _, _, _, _, _, _, _, _, _, _, _, _, _, _, _, _, _, _, _, _, rfl⟩, Or.inl ⟨rfl, J5.out⟩⟩, by rw [mAll_0, mAll_1]; omega⟩
          · have J5 := hide' (J4.out.rd a5 r5 rfl rfl rfl (show tagK s (sk s v.i) + 1 ≤ s.size by omega))
            have F5 := hide' (show fin3 s W H (tagK s (sk s v.i) + 1) xs = runsS s by rw [← HF.out, fin_end hli (tag1_end HB.out hlt Q.out hc)])
            clear a5 r5
            go_wp2
            go_step3
            exact ⟨⟨⟨_, _, _, _, _, _, _, _, _, _, _, _, _, _, _, _, _, _, _, _, _, _, _, _, _, _, _, _, _, _, _, _, _, _, _, _, _, _, _, _, _, _, _, _, rfl⟩, Or.inr (Or.inr ⟨rfl, ⟨_, W, H, g, xs, J5.out, F5.out⟩⟩)⟩, by rw [mAll_2, mAll_1]; omega⟩
        have n33 : ((bt s (tagK s (sk s v.i)) : Int) == 33) = false := by simp; omega
        have Q := hide' (And.intro q98 (And.intro q111 (And.intro q36 q33)))
        have c1 := J4.out.rat.ten.c1
        dsimp only at c1
        clear q98 q111 q36 q33
        go_wp2_with fail
        refine (pfail (w.heap.size + 1) s _ (tagK s (sk s v.i)) _ _ _ rfl J4.out.rat).mono ?_
        rintro e w5 ⟨rfl, a5, r5⟩
        have J5 := hide' (JWrong.mk' J4.out a5 r5 (tagK s (sk s v.i)) 2 rfl rfl (by rw [← HF.out, tagsF_bad hli (tag1_none HB.out Q.out.1 Q.out.2.1 Q.out.2.2.1 Q.out.2.2.2)]; rfl))
        clear a5 r5
        go_wp2
        go_step3
        exact ⟨⟨⟨_, _, _, _, _, _, _, _, _, _, _, _, _, _, _, _, _, _, _, _, _, _, _, _, _, _, _, _, _, _, _, _, _, _, _, _, _, _, _, _, _, _, _, _, rfl⟩, Or.inl ⟨rfl, J5.out⟩⟩, by rw [mAll_0, mAll_1]; omega⟩
    · refine ⟨_, rfl, ?_⟩
      have JC := hide' jc
      have hli := jc.li
      have VW := hide' jc.wd
      have VH := hide' jc.hi
      have VC := hide' jc.cs
      have HF := hide' hF
      clear jc hF
      go_wp2_with fail
      refine (pskip (w.heap.size + 1) s v _ JC.out.rat hli hs).mono ?_
      rintro e w2 ⟨rfl, a2, r2⟩
      have J2 := hide' (JC.out.rd a2 r2 rfl rfl rfl (sk_le hli))
      clear a2 r2
      have x1 := J2.out.rat.ten.c1
      have x3 := J2.out.rat.ten.c3
      have x4 := J2.out.rat.ten.c4
      have x5 := J2.out.rat.ten.c5
      dsimp only at x1 x3 x4 x5
      rw [VW.out] at x3
      rw [VH.out] at x4
      rw [VC.out] at x5
      obtain ⟨y0, y1, y2, g0, g1, g2⟩ := (resW_res w).below (by rw [resW_size]; omega) J2.out.below
      by_cases q : sk s v.i = s.size
      · have n2 : ((sk s v.i : Int) == (s.size : Int)) = true := by simp; omega
        have RE := hide' (show runsS s = .inl (W, H, xs) by rw [← HF.out]; unfold fin3; rw [if_pos q])
        clear q
        go_wp2
        rw [jumps_ret]
        refine bodyPost_ret (v := .tuple #[.agg #[.int .i64 (W : Int), .int .i64 (H : Int), .slice (some ⟨g, 0, none⟩) (W * H) (W * H)], .int .i64 0, .nilIface]) (by simp [results, Tryd.results39, go_sem, y0, y1, y2]) rfl ?_
        have hg := J2.out.gb
        refine ⟨((below_res J2.out.below).setCell (Nat.le_refl _) _).setCell (Nat.le_refl _) _ |>.setCell (Nat.le_refl _) _, Or.inl ⟨W, H, xs, g, RE.out, rfl, ?_, J2.out.len, J2.out.lw, J2.out.lh⟩⟩
        exact ((J2.out.cel.rd ((Rd.refl w.heap.size _).set 0 _) (by omega)).rd ((Rd.refl w.heap.size _).set 1 _) (by omega)).rd ((Rd.refl w.heap.size _).set 2 _) (by omega)
      · have n2 : ((sk s v.i : Int) == (s.size : Int)) = false := by simp; omega
        have RE0 := hide' (show runsS s = .inr (sk s v.i, 2) by rw [← HF.out]; unfold fin3; rw [if_neg q])
        clear q y0 y1 y2 g0 g1 g2
        go_wp2_with fail
        refine (pfail (w.heap.size + 1) s _ (sk s v.i) _ _ _ rfl J2.out.rat).mono ?_
        rintro e wr' ⟨rfl, a5, r5⟩
        have J5 := JWrong.mk' J2.out a5 r5 (sk s v.i) 2 rfl rfl RE0.out
        clear a5 r5 x1 x3 x4 x5
        obtain ⟨⟨rr, ff, v', ra, ri, rf, re⟩, rb⟩ := J5
        go_wp2_with fail
        go_step3
        have x1 := ra.ten.c1
        have x2 := ra.ten.c2
        rw [ri] at x1
        rw [rf] at x2
        obtain ⟨y0, y1, y2, g0, g1, g2⟩ := (resW_res w).below (by rw [resW_size]; omega) rb
        have RB := hide' rb
        have RE := hide' re
        clear ra ri rf rb re
        go_wp2
        go_region
        go_wp2
        rw [jumps_ret]
        refine bodyPost_ret (v := .tuple #[.agg #[.int .i64 0, .int .i64 0, .slice none 0 0], .int .i64 (rr : Int), .iface 87 (.int .i64 (ff : Int))]) (by simp [results, Tryd.results39, go_sem, y0, y1, y2]) rfl ?_
        exact ⟨(((below_res RB.out).setCell (Nat.le_refl _) _).setCell (Nat.le_refl _) _ |>.setCell (Nat.le_refl _) _).trans ⟨rfl, rfl, rfl, Nat.le_refl _, fun _ _ => rfl⟩, Or.inr ⟨rr, ff, RE.out, rfl⟩⟩
end Go.Proofs.YtjngjnkecnnmeaaDoor

