/-
  What the last text of this claim leans on, part 45: Qb1, Da5.
-/
import Derived.Test.YtjngjnkecnnmeaaDoorJb44
import Derived.Test.YtjngjnkecnnmeaaDoorJb42
import Derived.Test.YtjngjnkecnnmeaaDoorJb43
namespace Go.Proofs.YtjngjnkecnnmeaaDoor
open Go.RowKit
set_option linter.unusedVariables false

set_option maxRecDepth 100000 in
set_option maxHeartbeats 6400000 in
theorem refParseDraw (s : ByteArray) (w : World) (hs : s.size ≤ 40000) :
    Calls Tryd.prog 42 #[.string s] w (RefDraw s w) := by
  have n1 : ¬ (40000 : Int) < (s.size : Int) := by omega
  have S0 := hide' (RD.start w 51 51 51)
  have N0 := hide' (DNum.start s hs)
  obtain ⟨i0, hi, hz0, hz1, hz2⟩ := info_parts info_int
  go_enter Tryd.func42, Tryd.ntmps42
  go_wp2
  go_loopw [7, 8, 9] (fun rv nv iv wr => ∃ (i r n W H : Nat) (v : Value) (xs : List Int), rv = .int .i64 (r : Int) ∧ nv = .int .i64 (n : Int) ∧ iv = .int .i64 (i : Int) ∧ RD w wr W H v xs ∧ DNum s i r n W H xs) (fun _ _ iv _ => s.size - (intOf iv).toNat)
  case atStart => exact ⟨0, 0, 0, 0, 0, _, [], rfl, rfl, rfl, S0.out, N0.out⟩
  case round =>
    obtain ⟨i, r, n, W, H, v, xs, rfl, rfl, rfl, rd, dn⟩ := hrel
    have S := hide' rd
    have N := hide' dn
    have hli := dn.li
    have hln := dn.ln
    have hlh := dn.lH
    have hlr := dn.lr
    have hz := rd.sz
    have ho := rd.own
    have B := hide' rd.below
    obtain ⟨y0, y1, y2, g0, g1, g2⟩ := rd.res
    obtain ⟨t0, t1, t2, -, -, -⟩ := rd.non
    have q0 := rd.p0
    have q1 := rd.p1
    have q2 := rd.p2
    have f0 := rd.fz 0
    have f1 := rd.fz 1
    have f2 := rd.fz 2
    obtain ⟨sa, sn, sc, rfl⟩ := ownsRow_slice ho
    have HO := hide' ho
    clear rd dn S0 N0 ho
    by_cases hlt : i < s.size
    · have o0 : (i : Int) < (s.size : Int) := by omega
      have hb0 := bt_lt s i hlt
      by_cases b194 : bt s i = 194
      · have m1 : ((s[i].toNat : Int) == 194) = true := by simp; omega
        have m2 : ((s[i].toNat : Int) == 226) = false := by simp; omega
        have m3 : ((s[i].toNat : Int) != 10) = true := by simp; omega
        have hba : isBall s i = false := by
          cases hd : isBall s i with
          | false => rfl
          | true => have := isBall_true.1 hd; omega
        by_cases l1 : i + 1 < s.size
        · have o1 : (i : Int) + 1 < (s.size : Int) := by omega
          have hb1 := bt_lt s (i + 1) l1
          by_cases b183 : bt s (i + 1) = 183
          · have m4 : ((s[i + 1].toNat : Int) == 183) = true := by simp; omega
            have hd : isDot s i = true := isDot_true.2 ⟨b194, l1, b183⟩
            have hj : i + 2 ≤ s.size := by omega
            clear hb0 hb1 b194 b183 m2 m3
            have EQ := hide' (drawF_dot (r := r) (n := n) (W := W) (H := H) (xs := xs) hlt hd)
            by_cases h100 : H = 100
            · have hn0 := N.out.top h100
              have p0 : ((n : Int) == 0) = true := by simp; omega
              have p1 : ((H : Int) == 100) = true := by simp; omega
              have RE := hide' (show drawS s = .inr (r, 1) by rw [← N.out.eq, EQ.out, if_pos h100])
              clear hn0 h100
              go_wp2
              refine bodyPost_ret (v := .tuple #[.agg #[.int .i64 0, .int .i64 0, .slice none 0 0], .int .i64 ((r : Nat) : Int), .int .i64 1]) (by simp [results, Tryd.results42, go_sem, y0, y1, y2]) rfl ?_
              exact ⟨fin_below B.out _ _ _, Or.inr ⟨r, 1, RE.out, by omega, rfl⟩⟩
            have p1 : ((H : Int) == 100) = false := by simp; omega
            by_cases n0 : n = 0
            · have p0 : ((n : Int) == 0) = true := by simp; omega
              have N0' := hide' n0
              by_cases n100 : n = 100
              · have p2 : ((n : Int) == 100) = true := by simp; omega
                have RE := hide' (show drawS s = .inr (i, 1) by rw [← N.out.eq, EQ.out, if_neg h100, if_pos n100])
                clear n100 n0
                go_wp2
                refine bodyPost_ret (v := .tuple #[.agg #[.int .i64 0, .int .i64 0, .slice none 0 0], .int .i64 ((i : Nat) : Int), .int .i64 1]) (by simp [results, Tryd.results42, go_sem, y0, y1, y2]) rfl ?_
                exact ⟨fin_below B.out _ _ _, Or.inr ⟨i, 1, RE.out, by omega, rfl⟩⟩
              have p2 : ((n : Int) == 100) = false := by simp; omega
              have N2 := hide' (N.out.cell (i + 2) 0 hj (by omega) h100 n100 (by rw [EQ.out, if_neg h100, if_neg n100]))
              clear n0
              have hsm := N.out.small h100
              go_wp2_with (at_builtin; refine wpList_append_own _ rfl _ _ 22 rfl (w.heap.size + 3) 3 i0 (.int .i64 0) 1 8 Tryd.underlying22 hi hz0 hz1 hz2 rfl (by decide) (.slice sa sn sc) _ _ rfl (HO.out.alloc _) ⟨wr.heap.size, 0, none⟩ 1 1 [.int .i64 0] rfl rfl (cell_one_new _ _ _) (fun x hx => by simp at hx; subst hx; rfl) (by unfold maxLen; omega) (by omega) (by simp; omega) ?_; intro v' w3 hown' hgrow3 hnil3; obtain ⟨ta, tn, tc, rfl⟩ := ownsRow_slice hown'; obtain ⟨x5, x6⟩ := S.out.mid 0 hgrow3; have G3 := hide' hgrow3; have O3 := hide' hown'; clear hgrow3 hown' hnil3)
              refine ⟨⟨i + 2, r, n + 1, W, H, _, xs ++ [0], rfl, by go_num, by go_num, S.out.push 0 G3.out O3.out, N2.out⟩, by simp [intOf]; omega⟩
            · have p0 : ((n : Int) == 0) = false := by simp; omega
              by_cases n100 : n = 100
              · have p2 : ((n : Int) == 100) = true := by simp; omega
                have RE := hide' (show drawS s = .inr (i, 1) by rw [← N.out.eq, EQ.out, if_neg h100, if_pos n100])
                clear n100
                go_wp2
                refine bodyPost_ret (v := .tuple #[.agg #[.int .i64 0, .int .i64 0, .slice none 0 0], .int .i64 ((i : Nat) : Int), .int .i64 1]) (by simp [results, Tryd.results42, go_sem, y0, y1, y2]) rfl ?_
                exact ⟨fin_below B.out _ _ _, Or.inr ⟨i, 1, RE.out, by omega, rfl⟩⟩
              have p2 : ((n : Int) == 100) = false := by simp; omega
              have N2 := hide' (N.out.cell (i + 2) 0 hj (by omega) h100 n100 (by rw [EQ.out, if_neg h100, if_neg n100]))
              have hsm := N.out.small h100
              go_wp2_with (at_builtin; refine wpList_append_own _ rfl _ _ 22 rfl (w.heap.size + 3) 3 i0 (.int .i64 0) 1 8 Tryd.underlying22 hi hz0 hz1 hz2 rfl (by decide) (.slice sa sn sc) _ _ rfl (HO.out.alloc _) ⟨wr.heap.size, 0, none⟩ 1 1 [.int .i64 0] rfl rfl (cell_one_new _ _ _) (fun x hx => by simp at hx; subst hx; rfl) (by unfold maxLen; omega) (by omega) (by simp; omega) ?_; intro v' w3 hown' hgrow3 hnil3; obtain ⟨ta, tn, tc, rfl⟩ := ownsRow_slice hown'; obtain ⟨x5, x6⟩ := S.out.mid 0 hgrow3; have G3 := hide' hgrow3; have O3 := hide' hown'; clear hgrow3 hown' hnil3)
              refine ⟨⟨i + 2, r, n + 1, W, H, _, xs ++ [0], rfl, by go_num, by go_num, S.out.push 0 G3.out O3.out, N2.out⟩, by simp [intOf]; omega⟩
          · have m4 : ((s[i + 1].toNat : Int) == 183) = false := by simp; omega
            have HD := hide' (And.intro (show isDot s i = false by
              cases hd : isDot s i with
              | false => rfl
              | true => exact absurd (isDot_true.1 hd).2.2 b183) hba)
            clear hb0 hb1
            have RE := hide' (show drawS s = .inr (i, 2) by rw [← N.out.eq, drawF_none hlt HD.out.1 HD.out.2 (by omega)])
            go_wp2
            refine bodyPost_ret (v := .tuple #[.agg #[.int .i64 0, .int .i64 0, .slice none 0 0], .int .i64 ((i : Nat) : Int), .int .i64 2]) (by simp [results, Tryd.results42, go_sem, y0, y1, y2]) rfl ?_
            exact ⟨fin_below B.out _ _ _, Or.inr ⟨i, 2, RE.out, by omega, rfl⟩⟩
        · have o1 : ¬ (i : Int) + 1 < (s.size : Int) := by omega
          have HD := hide' (And.intro (show isDot s i = false by
            cases hd : isDot s i with
            | false => rfl
            | true => exact absurd (isDot_true.1 hd).2.1 l1) hba)
          clear hb0
          have RE := hide' (show drawS s = .inr (i, 2) by rw [← N.out.eq, drawF_none hlt HD.out.1 HD.out.2 (by omega)])
          go_wp2
          refine bodyPost_ret (v := .tuple #[.agg #[.int .i64 0, .int .i64 0, .slice none 0 0], .int .i64 ((i : Nat) : Int), .int .i64 2]) (by simp [results, Tryd.results42, go_sem, y0, y1, y2]) rfl ?_
          exact ⟨fin_below B.out _ _ _, Or.inr ⟨i, 2, RE.out, by omega, rfl⟩⟩
      · have m1 : ((s[i].toNat : Int) == 194) = false := by simp; omega
        have hd : isDot s i = false := by
          cases hd : isDot s i with
          | false => rfl
          | true => exact absurd (isDot_true.1 hd).1 b194
        by_cases b226 : bt s i = 226
        · have m2 : ((s[i].toNat : Int) == 226) = true := by simp; omega
          have m3 : ((s[i].toNat : Int) != 10) = true := by simp; omega
          by_cases l2 : i + 2 < s.size
          · have o2 : (i : Int) + 2 < (s.size : Int) := by omega
            have l1 : i + 1 < s.size := by omega
            have o1 : (i : Int) + 1 < (s.size : Int) := by omega
            have hb1 := bt_lt s (i + 1) l1
            have hb2 := bt_lt s (i + 2) l2
            by_cases b151 : bt s (i + 1) = 151
            · have m4 : ((s[i + 1].toNat : Int) == 151) = true := by simp; omega
              by_cases b143 : bt s (i + 2) = 143
              · have m5 : ((s[i + 2].toNat : Int) == 143) = true := by simp; omega
                have hba : isBall s i = true := isBall_true.2 ⟨b226, l2, b151, b143⟩
                have hj : i + 3 ≤ s.size := by omega
                clear hb0 hb1 hb2 b194 b226 b151 b143 m3
                have EQ := hide' (drawF_ball (r := r) (n := n) (W := W) (H := H) (xs := xs) hlt hd hba)
                by_cases h100 : H = 100
                · have hn0 := N.out.top h100
                  have p0 : ((n : Int) == 0) = true := by simp; omega
                  have p1 : ((H : Int) == 100) = true := by simp; omega
                  have RE := hide' (show drawS s = .inr (r, 1) by rw [← N.out.eq, EQ.out, if_pos h100])
                  clear hn0 h100
                  go_wp2
                  refine bodyPost_ret (v := .tuple #[.agg #[.int .i64 0, .int .i64 0, .slice none 0 0], .int .i64 ((r : Nat) : Int), .int .i64 1]) (by simp [results, Tryd.results42, go_sem, y0, y1, y2]) rfl ?_
                  exact ⟨fin_below B.out _ _ _, Or.inr ⟨r, 1, RE.out, by omega, rfl⟩⟩
                have p1 : ((H : Int) == 100) = false := by simp; omega
                by_cases n0 : n = 0
                · have p0 : ((n : Int) == 0) = true := by simp; omega
                  have N0' := hide' n0
                  by_cases n100 : n = 100
                  · have p2 : ((n : Int) == 100) = true := by simp; omega
                    have RE := hide' (show drawS s = .inr (i, 1) by rw [← N.out.eq, EQ.out, if_neg h100, if_pos n100])
                    clear n100 n0
                    go_wp2
                    refine bodyPost_ret (v := .tuple #[.agg #[.int .i64 0, .int .i64 0, .slice none 0 0], .int .i64 ((i : Nat) : Int), .int .i64 1]) (by simp [results, Tryd.results42, go_sem, y0, y1, y2]) rfl ?_
                    exact ⟨fin_below B.out _ _ _, Or.inr ⟨i, 1, RE.out, by omega, rfl⟩⟩
                  have p2 : ((n : Int) == 100) = false := by simp; omega
                  have N2 := hide' (N.out.cell (i + 3) 1 hj (by omega) h100 n100 (by rw [EQ.out, if_neg h100, if_neg n100]))
                  clear n0
                  have hsm := N.out.small h100
                  go_wp2_with (at_builtin; refine wpList_append_own _ rfl _ _ 22 rfl (w.heap.size + 3) 3 i0 (.int .i64 0) 1 8 Tryd.underlying22 hi hz0 hz1 hz2 rfl (by decide) (.slice sa sn sc) _ _ rfl (HO.out.alloc _) ⟨wr.heap.size, 0, none⟩ 1 1 [.int .i64 1] rfl rfl (cell_one_new _ _ _) (fun x hx => by simp at hx; subst hx; rfl) (by unfold maxLen; omega) (by omega) (by simp; omega) ?_; intro v' w3 hown' hgrow3 hnil3; obtain ⟨ta, tn, tc, rfl⟩ := ownsRow_slice hown'; obtain ⟨x5, x6⟩ := S.out.mid 1 hgrow3; have G3 := hide' hgrow3; have O3 := hide' hown'; clear hgrow3 hown' hnil3)
                  refine ⟨⟨i + 3, r, n + 1, W, H, _, xs ++ [1], rfl, by go_num, by go_num, S.out.push 1 G3.out O3.out, N2.out⟩, by simp [intOf]; omega⟩
                · have p0 : ((n : Int) == 0) = false := by simp; omega
                  by_cases n100 : n = 100
                  · have p2 : ((n : Int) == 100) = true := by simp; omega
                    have RE := hide' (show drawS s = .inr (i, 1) by rw [← N.out.eq, EQ.out, if_neg h100, if_pos n100])
                    clear n100
                    go_wp2
                    refine bodyPost_ret (v := .tuple #[.agg #[.int .i64 0, .int .i64 0, .slice none 0 0], .int .i64 ((i : Nat) : Int), .int .i64 1]) (by simp [results, Tryd.results42, go_sem, y0, y1, y2]) rfl ?_
                    exact ⟨fin_below B.out _ _ _, Or.inr ⟨i, 1, RE.out, by omega, rfl⟩⟩
                  have p2 : ((n : Int) == 100) = false := by simp; omega
                  have N2 := hide' (N.out.cell (i + 3) 1 hj (by omega) h100 n100 (by rw [EQ.out, if_neg h100, if_neg n100]))
                  have hsm := N.out.small h100
                  go_wp2_with (at_builtin; refine wpList_append_own _ rfl _ _ 22 rfl (w.heap.size + 3) 3 i0 (.int .i64 0) 1 8 Tryd.underlying22 hi hz0 hz1 hz2 rfl (by decide) (.slice sa sn sc) _ _ rfl (HO.out.alloc _) ⟨wr.heap.size, 0, none⟩ 1 1 [.int .i64 1] rfl rfl (cell_one_new _ _ _) (fun x hx => by simp at hx; subst hx; rfl) (by unfold maxLen; omega) (by omega) (by simp; omega) ?_; intro v' w3 hown' hgrow3 hnil3; obtain ⟨ta, tn, tc, rfl⟩ := ownsRow_slice hown'; obtain ⟨x5, x6⟩ := S.out.mid 1 hgrow3; have G3 := hide' hgrow3; have O3 := hide' hown'; clear hgrow3 hown' hnil3)
                  refine ⟨⟨i + 3, r, n + 1, W, H, _, xs ++ [1], rfl, by go_num, by go_num, S.out.push 1 G3.out O3.out, N2.out⟩, by simp [intOf]; omega⟩
              · have m5 : ((s[i + 2].toNat : Int) == 143) = false := by simp; omega
                have HD := hide' (And.intro hd (show isBall s i = false by
                  cases hd : isBall s i with
                  | false => rfl
                  | true => exact absurd (isBall_true.1 hd).2.2.2 b143))
                clear hb0 hb1 hb2
                have RE := hide' (show drawS s = .inr (i, 2) by rw [← N.out.eq, drawF_none hlt HD.out.1 HD.out.2 (by omega)])
                go_wp2
                refine bodyPost_ret (v := .tuple #[.agg #[.int .i64 0, .int .i64 0, .slice none 0 0], .int .i64 ((i : Nat) : Int), .int .i64 2]) (by simp [results, Tryd.results42, go_sem, y0, y1, y2]) rfl ?_
                exact ⟨fin_below B.out _ _ _, Or.inr ⟨i, 2, RE.out, by omega, rfl⟩⟩
            · have m4 : ((s[i + 1].toNat : Int) == 151) = false := by simp; omega
              have HD := hide' (And.intro hd (show isBall s i = false by
                cases hd : isBall s i with
                | false => rfl
                | true => exact absurd (isBall_true.1 hd).2.2.1 b151))
              clear hb0 hb1 hb2
              have RE := hide' (show drawS s = .inr (i, 2) by rw [← N.out.eq, drawF_none hlt HD.out.1 HD.out.2 (by omega)])
              go_wp2
              refine bodyPost_ret (v := .tuple #[.agg #[.int .i64 0, .int .i64 0, .slice none 0 0], .int .i64 ((i : Nat) : Int), .int .i64 2]) (by simp [results, Tryd.results42, go_sem, y0, y1, y2]) rfl ?_
              exact ⟨fin_below B.out _ _ _, Or.inr ⟨i, 2, RE.out, by omega, rfl⟩⟩
          · have o2 : ¬ (i : Int) + 2 < (s.size : Int) := by omega
            have HD := hide' (And.intro hd (show isBall s i = false by
              cases hd : isBall s i with
              | false => rfl
              | true => exact absurd (isBall_true.1 hd).2.1 l2))
            clear hb0
            have RE := hide' (show drawS s = .inr (i, 2) by rw [← N.out.eq, drawF_none hlt HD.out.1 HD.out.2 (by omega)])
            go_wp2
            refine bodyPost_ret (v := .tuple #[.agg #[.int .i64 0, .int .i64 0, .slice none 0 0], .int .i64 ((i : Nat) : Int), .int .i64 2]) (by simp [results, Tryd.results42, go_sem, y0, y1, y2]) rfl ?_
            exact ⟨fin_below B.out _ _ _, Or.inr ⟨i, 2, RE.out, by omega, rfl⟩⟩
        · have m2 : ((s[i].toNat : Int) == 226) = false := by simp; omega
          have HD := hide' (And.intro hd (show isBall s i = false by
            cases hd : isBall s i with
            | false => rfl
            | true => exact absurd (isBall_true.1 hd).1 b226))
          by_cases b10 : bt s i = 10
          · have m3 : ((s[i].toNat : Int) != 10) = false := by simp; omega
            have EQ := hide' (drawF_ten (r := r) (n := n) (W := W) (H := H) (xs := xs) hlt b10)
            clear hb0 b194 b226
            by_cases h100 : H = 100
            · have p1 : ((H : Int) == 100) = true := by simp; omega
              have RE := hide' (show drawS s = .inr (r, 1) by rw [← N.out.eq, EQ.out, if_pos h100])
              clear h100 b10
              go_wp2
              refine bodyPost_ret (v := .tuple #[.agg #[.int .i64 0, .int .i64 0, .slice none 0 0], .int .i64 ((r : Nat) : Int), .int .i64 1]) (by simp [results, Tryd.results42, go_sem, y0, y1, y2]) rfl ?_
              exact ⟨fin_below B.out _ _ _, Or.inr ⟨r, 1, RE.out, by omega, rfl⟩⟩
            have p1 : ((H : Int) == 100) = false := by simp; omega
            by_cases hH0 : 0 < H
            · have p2 : (0 : Int) < (H : Int) := by omega
              by_cases hnW : n = W
              · have p3 : ((n : Int) != (W : Int)) = false := by simp; omega
                have N2 := hide' (N.out.ten hlt h100 (fun q => q.2 hnW) b10)
                clear hnW b10
                go_wp2
                refine ⟨⟨i + 1, i + 1, 0, n, H + 1, .slice sa sn sc, xs, by go_num, rfl, by go_num, ?_, N2.out⟩, by simp [intOf]; omega⟩
                rw [show (H : Int) + 1 = ((H + 1 : Nat) : Int) by omega]
                exact S.out.ten n
              · have p3 : ((n : Int) != (W : Int)) = true := by simp; omega
                have RE := hide' (show drawS s = .inr (r, 3) by rw [← N.out.eq, EQ.out, if_neg h100, if_pos ⟨hH0, hnW⟩])
                clear hnW b10
                go_wp2
                refine bodyPost_ret (v := .tuple #[.agg #[.int .i64 0, .int .i64 0, .slice none 0 0], .int .i64 ((r : Nat) : Int), .int .i64 3]) (by simp [results, Tryd.results42, go_sem, y0, y1, y2]) rfl ?_
                exact ⟨fin_below B.out _ _ _, Or.inr ⟨r, 3, RE.out, by omega, rfl⟩⟩
            · have p2 : ¬ (0 : Int) < (H : Int) := by omega
              have N2 := hide' (N.out.ten hlt h100 (fun q => hH0 q.1) b10)
              clear b10
              go_wp2
              refine ⟨⟨i + 1, i + 1, 0, n, H + 1, .slice sa sn sc, xs, by go_num, rfl, by go_num, ?_, N2.out⟩, by simp [intOf]; omega⟩
              rw [show (H : Int) + 1 = ((H + 1 : Nat) : Int) by omega]
              exact S.out.ten n
          · have m3 : ((s[i].toNat : Int) != 10) = true := by simp; omega
            clear hb0
            have RE := hide' (show drawS s = .inr (i, 2) by rw [← N.out.eq, drawF_none hlt HD.out.1 HD.out.2 (by omega)])
            go_wp2
            refine bodyPost_ret (v := .tuple #[.agg #[.int .i64 0, .int .i64 0, .slice none 0 0], .int .i64 ((i : Nat) : Int), .int .i64 2]) (by simp [results, Tryd.results42, go_sem, y0, y1, y2]) rfl ?_
            exact ⟨fin_below B.out _ _ _, Or.inr ⟨i, 2, RE.out, by omega, rfl⟩⟩
    · have o0 : ¬ (i : Int) < (s.size : Int) := by omega
      have EQ := hide' (drawF_end (s := s) (i := i) (r := r) (n := n) (W := W) (H := H) (xs := xs) (by omega))
      by_cases q : r < s.size
      · have m1 : (r : Int) < (s.size : Int) := by omega
        have RE := hide' (show drawS s = .inr (s.size, 2) by rw [← N.out.eq, EQ.out, if_pos q])
        go_wp2
        refine bodyPost_ret (v := .tuple #[.agg #[.int .i64 0, .int .i64 0, .slice none 0 0], .int .i64 ((s.size : Nat) : Int), .int .i64 2]) (by simp [results, Tryd.results42, go_sem, y0, y1, y2]) rfl ?_
        exact ⟨fin_below B.out _ _ _, Or.inr ⟨s.size, 2, RE.out, by omega, rfl⟩⟩
      · have m1 : ¬ (r : Int) < (s.size : Int) := by omega
        have RE := hide' (show drawS s = .inl (W, H, xs) by rw [← N.out.eq, EQ.out, if_neg q])
        go_wp2
        refine bodyPost_ret (v := .tuple #[.agg #[.int .i64 (W : Int), .int .i64 (H : Int), .slice sa sn sc], .int .i64 0, .int .i64 0]) (by simp [results, Tryd.results42, go_sem, y0, y1, y2]) rfl ?_
        refine ⟨fin_below B.out _ _ _, Or.inl ⟨W, H, xs, _, RE.out, rfl, ?_, N.out.all, fresh_own HO.out (by omega)⟩⟩
        exact ownsRow_tab (ownsRow_setCell_below (ownsRow_setCell_below (ownsRow_setCell_below HO.out (a := ⟨w.heap.size, 0, none⟩) (by simp) _) (a := ⟨w.heap.size, 1, none⟩) (by simp) _) (a := ⟨w.heap.size, 2, none⟩) (by simp) _)
end Go.Proofs.YtjngjnkecnnmeaaDoor

namespace Go.Proofs.YtjngjnkecnnmeaaDoor
open Go.RowKit
set_option linter.unusedVariables false

set_option maxRecDepth 100000 in
set_option maxHeartbeats 1600000 in
theorem pParseDraw_any (s : ByteArray) (w : World) (hs : s.size ≤ maxLen) :
    Calls Tryd.prog 41 #[.string s] w (DrawPost s w) := by
  by_cases h : 40000 < s.size
  · have n1 : (40000 : Int) < (s.size : Int) := by omega
    have r0 := res_new w 51
    obtain ⟨y0, y1, y2, g0, g1, g2⟩ := r0
    unfold maxLen at hs
    have RE := hide' (show drawS s = .inr (0, 4) by unfold drawS; rw [if_pos h])
    go_enter Tryd.func41, Tryd.ntmps41
    go_wp2
    refine bodyPost_ret (v := .tuple #[.agg #[.int .i64 0, .int .i64 0, .slice none 0 0], .int .i64 0, .iface 87 (.int .i64 4)]) (by simp [results, Tryd.results41, go_sem]) rfl ?_
    refine ⟨?_, Or.inr ⟨0, 4, RE.out, rfl⟩⟩
    exact (Below.refl _ _).alloc (Nat.le_refl _) _
  · exact pParseDraw s w (by omega)

set_option maxRecDepth 100000 in
set_option maxHeartbeats 1600000 in
theorem refParseDraw_any (s : ByteArray) (w : World) (hs : s.size ≤ maxLen) :
    Calls Tryd.prog 42 #[.string s] w (RefDraw s w) := by
  by_cases h : 40000 < s.size
  · have n1 : (40000 : Int) < (s.size : Int) := by omega
    unfold maxLen at hs
    have RE := hide' (show drawS s = .inr (0, 4) by unfold drawS; rw [if_pos h])
    go_enter Tryd.func42, Tryd.ntmps42
    go_wp2
    refine bodyPost_ret (v := .tuple #[.agg #[.int .i64 0, .int .i64 0, .slice none 0 0], .int .i64 0, .int .i64 4]) (by simp [results, Tryd.results42, go_sem]) rfl ?_
    refine ⟨?_, Or.inr ⟨0, 4, RE.out, by omega, rfl⟩⟩
    exact ((Below.refl _ _).alloc (Nat.le_refl _) _).alloc (by simp) _
  · exact refParseDraw s w (by omega)

set_option maxRecDepth 100000 in
set_option maxHeartbeats 1600000 in
theorem refParseRuns_any (s : ByteArray) (w : World) (hs : s.size ≤ maxLen) :
    Calls Tryd.prog 40 #[.string s] w (RefRuns s w) := by
  by_cases h : 40000 < s.size
  · have n1 : (40000 : Int) < (s.size : Int) := by omega
    unfold maxLen at hs
    have RE := hide' (show runsS s = .inr (0, 4) by unfold runsS; rw [if_pos h])
    go_enter Tryd.func40, Tryd.ntmps40
    go_wp2
    refine bodyPost_ret (v := .tuple #[.agg #[.int .i64 0, .int .i64 0, .slice none 0 0], .int .i64 0, .int .i64 4]) (by simp [results, Tryd.results40, go_sem]) rfl ?_
    refine ⟨?_, Or.inr ⟨0, 4, RE.out, by omega, rfl⟩⟩
    exact ((Below.refl _ _).alloc (Nat.le_refl _) _).alloc (by simp) _
  · exact refParseRuns s w (by omega)

end Go.Proofs.YtjngjnkecnnmeaaDoor

