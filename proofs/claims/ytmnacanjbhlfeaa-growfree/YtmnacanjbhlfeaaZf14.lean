/-
  What the last text of this claim leans on, part 14: LawGfC, LawGf.
-/
import Derived.Test.YtmnacanjbhlfeaaZf12
import Derived.Test.YtmnacanjbhlfeaaZf13
import Derived.Deep.DeepCutAuto
namespace Go.Proofs.Ytmnacanjbhlfeaa
open Go.RowKit
set_option linter.unusedVariables false
set_option linter.unusedSimpArgs false
set_option maxRecDepth 100000 in
set_option maxHeartbeats 51200000 in
theorem law_free_C (xs : List (List UInt8)) (a : Option Addr) (k c : Nat) (l : List UInt8) (n m t : Int) (w : World) (hA : ArgX w xs a k c) (hl : l.length ≤ maxLen) (hm : m ≤ 9223372036854775807) (hn0 : 0 ≤ n) (hn : n ≤ 15) :
    Calls Try.prog 4 #[.slice a k c, .string ⟨l.toArray⟩, .int .i64 n, .int .i64 m, .int .i64 t] w fun e w' => e = .returned (.bool true) ∧ Below w.heap.size w w' := by
  have FC := hide' (fact_any w)
  have KL := hide' hA.len
  have GG := hide' (fun (V : World) (h : Below w.heap.size w V) => growGrow_any xs a k c l n V (hA.below h) hl)
  have CG := hide' (fun (V : World) (h : Below w.heap.size w V) => growCount_any xs a k c l n V (hA.below h) hl)
  have LG := hide' (fun (n' t' : Nat) (s : List UInt8) (h0 : gwF xs l (n' : Int) = 0) (hs : cnW xs n' l = some s) (ht : t' < s.length) (V : World) (h : Below w.heap.size w V) => growLetter_some xs a k c l n' t' s V (hA.below h) hl h0 hs ht)
  have G2 := hide' (fun (s : List UInt8) (hs : s.length ≤ maxLen) (x : Int) (V : World) (h : Below w.heap.size w V) => growGrow_any xs a k c s x V (hA.below h) hs)
  have HLL := hide' hl
  clear hA hl
  go_enter Try.func4, Try.ntmps4
  go_wp2_with fail
  refine FC.out.mono ?_
  rintro o w1 ⟨rfl, b1⟩
  have B1 := hide' b1
  clear b1 FC
  go_upto_if 53 with fail
  go_cut [] (fun wx => Hid (Below w.heap.size w wx))
  case first =>
    obtain ⟨q, rfl⟩ : ∃ q : Nat, n = (q : Int) := ⟨n.toNat, by omega⟩
    have TH := hide' (fun (V : World) => thG_any q (by omega) V)
    have TE := hide' (fun (V : World) => teG_any q (by omega) V)
    have OV := hide' (fun (s : List UInt8) (hs : s.length ≤ 40000) (V : World) => Overlap_any s V (by unfold maxLen; omega))
    have SQ := hide' (fun (s : List UInt8) (hs : s.length ≤ 40000) (V : World) => Square_any s V (by unfold maxLen; omega))
    have CU := hide' (fun (s : List UInt8) => show (⟨s.toArray⟩ : ByteArray).extract 0 1200 = ⟨(s.take 1200).toArray⟩ by rw [cut_Y]; rfl)
    go_wp2_with fail
    refine (TH.out _).mono ?_
    rintro o w2 ⟨⟨s1, rfl, s1l, f1⟩, b2⟩
    have B2 := hide' (B1.out.trans (b2.mono B1.out.size))
    clear b2
    have F1 := hide' f1
    clear f1
    go_wp2_with fail
    refine (TE.out _).mono ?_
    rintro o w3 ⟨r3, b3⟩
    have B3 := hide' (B2.out.trans (b3.mono B2.out.size))
    clear b3
    obtain ⟨s2, Y2, rfl, s2l, F2, NE⟩ : ∃ (s2 : List UInt8) (Y2 : Value), o = .returned (.tuple #[.string ⟨s2.toArray⟩, Y2]) ∧ s2.length ≤ 40000 ∧ Hid (noR (s2.take 1200) 0 ((s2.take 1200).length + 1)) ∧ (Y2 = .nilIface ∨ (14 < q ∧ Y2 = .iface 48 (.int .i64 4))) := by
      rcases r3 with ⟨s, rfl, h1, h2⟩ | ⟨h1, rfl⟩
      · exact ⟨s, _, rfl, h1, hide' h2, Or.inl rfl⟩
      · refine ⟨[], _, rfl, by simp, hide' ?_, Or.inr ⟨h1, rfl⟩⟩
        intro e n' he r
        have := r.1
        have := r.2.1
        simp at he
        omega
    obtain ⟨v1, hv1⟩ : ∃ v1, s1.take 1200 = v1 := ⟨_, rfl⟩
    obtain ⟨v2, hv2⟩ : ∃ v2, s2.take 1200 = v2 := ⟨_, rfl⟩
    have cu1 := CU.out s1
    have cu2 := CU.out s2
    rw [hv1] at cu1 F1
    rw [hv2] at cu2 F2
    have v1l : v1.length ≤ 40000 := by rw [← hv1, List.length_take]; omega
    have v2l : v2.length ≤ 40000 := by rw [← hv2, List.length_take]; omega
    have OC := hide' (OV.out v1 v1l)
    have SC := hide' (SQ.out v2 v2l)
    have V1 := hide' (fun (h : s1.length ≤ 1200) => show v1 = s1 by rw [← hv1]; exact take_all h)
    have V2 := hide' (fun (h : s2.length ≤ 1200) => show v2 = s2 by rw [← hv2]; exact take_all h)
    clear hv1 hv2 CU OV SQ TH TE r3
    rcases NE with rfl | ⟨q14, rfl⟩
    · by_cases c1 : (1200 : Int) < (s1.length : Int)
      · by_cases c2 : (1200 : Int) < (s2.length : Int)
        · go_wp2_with fail
          refine (OC.out _).mono ?_
          rintro o w4 ⟨r4, b4⟩
          have B4 := hide' (B3.out.trans (b4.mono B3.out.size))
          obtain rfl := none_over r4 F1.out
          clear b4 r4
          go_wp2_with fail
          refine (SC.out _).mono ?_
          rintro o w5 ⟨r5, b5⟩
          have B5 := hide' (B4.out.trans (b5.mono B4.out.size))
          obtain rfl := none_over r5 F2.out
          clear b5 r5
          go_wp2_with fail
          go_meet
          exact B5
        · have w2' := V2.out (by omega)
          subst w2'
          go_wp2_with fail
          refine (OC.out _).mono ?_
          rintro o w4 ⟨r4, b4⟩
          have B4 := hide' (B3.out.trans (b4.mono B3.out.size))
          obtain rfl := none_over r4 F1.out
          clear b4 r4
          go_wp2_with fail
          refine (SC.out _).mono ?_
          rintro o w5 ⟨r5, b5⟩
          have B5 := hide' (B4.out.trans (b5.mono B4.out.size))
          obtain rfl := none_over r5 F2.out
          clear b5 r5
          go_wp2_with fail
          go_meet
          exact B5
      · by_cases c2 : (1200 : Int) < (s2.length : Int)
        · have w1 := V1.out (by omega)
          subst w1
          go_wp2_with fail
          refine (OC.out _).mono ?_
          rintro o w4 ⟨r4, b4⟩
          have B4 := hide' (B3.out.trans (b4.mono B3.out.size))
          obtain rfl := none_over r4 F1.out
          clear b4 r4
          go_wp2_with fail
          refine (SC.out _).mono ?_
          rintro o w5 ⟨r5, b5⟩
          have B5 := hide' (B4.out.trans (b5.mono B4.out.size))
          obtain rfl := none_over r5 F2.out
          clear b5 r5
          go_wp2_with fail
          go_meet
          exact B5
        · have w1 := V1.out (by omega)
          subst w1
          have w2' := V2.out (by omega)
          subst w2'
          go_wp2_with fail
          refine (OC.out _).mono ?_
          rintro o w4 ⟨r4, b4⟩
          have B4 := hide' (B3.out.trans (b4.mono B3.out.size))
          obtain rfl := none_over r4 F1.out
          clear b4 r4
          go_wp2_with fail
          refine (SC.out _).mono ?_
          rintro o w5 ⟨r5, b5⟩
          have B5 := hide' (B4.out.trans (b5.mono B4.out.size))
          obtain rfl := none_over r5 F2.out
          clear b5 r5
          go_wp2_with fail
          go_meet
          exact B5
    · by_cases c1 : (1200 : Int) < (s1.length : Int)
      · by_cases c2 : (1200 : Int) < (s2.length : Int)
        · go_wp2_with fail
          refine (OC.out _).mono ?_
          rintro o w4 ⟨r4, b4⟩
          have B4 := hide' (B3.out.trans (b4.mono B3.out.size))
          obtain rfl := none_over r4 F1.out
          clear b4 r4
          go_wp2_with fail
          refine (SC.out _).mono ?_
          rintro o w5 ⟨r5, b5⟩
          have B5 := hide' (B4.out.trans (b5.mono B4.out.size))
          obtain rfl := none_over r5 F2.out
          clear b5 r5
          go_wp2_with fail
          go_meet
          exact B5
        · have w2' := V2.out (by omega)
          subst w2'
          go_wp2_with fail
          refine (OC.out _).mono ?_
          rintro o w4 ⟨r4, b4⟩
          have B4 := hide' (B3.out.trans (b4.mono B3.out.size))
          obtain rfl := none_over r4 F1.out
          clear b4 r4
          go_wp2_with fail
          refine (SC.out _).mono ?_
          rintro o w5 ⟨r5, b5⟩
          have B5 := hide' (B4.out.trans (b5.mono B4.out.size))
          obtain rfl := none_over r5 F2.out
          clear b5 r5
          go_wp2_with fail
          go_meet
          exact B5
      · by_cases c2 : (1200 : Int) < (s2.length : Int)
        · have w1 := V1.out (by omega)
          subst w1
          go_wp2_with fail
          refine (OC.out _).mono ?_
          rintro o w4 ⟨r4, b4⟩
          have B4 := hide' (B3.out.trans (b4.mono B3.out.size))
          obtain rfl := none_over r4 F1.out
          clear b4 r4
          go_wp2_with fail
          refine (SC.out _).mono ?_
          rintro o w5 ⟨r5, b5⟩
          have B5 := hide' (B4.out.trans (b5.mono B4.out.size))
          obtain rfl := none_over r5 F2.out
          clear b5 r5
          go_wp2_with fail
          go_meet
          exact B5
        · have w1 := V1.out (by omega)
          subst w1
          have w2' := V2.out (by omega)
          subst w2'
          go_wp2_with fail
          refine (OC.out _).mono ?_
          rintro o w4 ⟨r4, b4⟩
          have B4 := hide' (B3.out.trans (b4.mono B3.out.size))
          obtain rfl := none_over r4 F1.out
          clear b4 r4
          go_wp2_with fail
          refine (SC.out _).mono ?_
          rintro o w5 ⟨r5, b5⟩
          have B5 := hide' (B4.out.trans (b5.mono B4.out.size))
          obtain rfl := none_over r5 F2.out
          clear b5 r5
          go_wp2_with fail
          go_meet
          exact B5
  case rest =>
    have BW := hcut
    go_wp2_with fail
    refine (GG.out _ BW.out).mono ?_
    rintro o w2 ⟨r2, b2⟩
    have B2 := hide' (BW.out.trans (b2.mono BW.out.size))
    clear b2
    rcases r2 with ⟨q, s, hs, rfl⟩ | ⟨q, hs, rfl⟩ | ⟨q, rfl⟩
    · obtain ⟨ok, l4, la, n0, n6⟩ := gwF_good q
      obtain ⟨p, rfl⟩ : ∃ p : Nat, n = (p : Int) := ⟨n.toNat, by omega⟩
      rw [Int.toNat_natCast] at hs
      have Q := hide' q
      have HS := hide' hs
      have HC := hide' (gwN_cnW hs)
      have OK3 := (imF_ok ok).2.2
      have k8 : k ≤ 8 := by rw [KL.out]; exact (imF_ok ok).2.1
      have SA := hide' (show s.all (ltB k) = true by rw [KL.out]; exact gwN_all (n := xs.length) (fun j hj => (OK3 j hj).2) la hs)
      have s4 : s.length ≤ 40000 := gwN_len hs l4
      have S4M := hide' (show s.length ≤ maxLen by unfold maxLen; omega)
      have SUM := hide' (ctL_sum SA.out)
      clear ok la l4 hs q OK3
      go_wp2_with fail
      refine (CG.out _ B2.out).mono ?_
      rintro o w3 ⟨r3, b3⟩
      have B3 := hide' (B2.out.trans (b3.mono B2.out.size))
      clear b3
      rcases r3 with ⟨_, s', g, hs', rfl, hr, hg⟩ | ⟨_, hs', rfl⟩ | ⟨q, rfl⟩
      · obtain rfl : s = s' := by rw [Int.toNat_natCast, HC.out] at hs'; exact Option.some.inj hs'
        have HR := hide' hr
        clear hr hs' hg
        go_wp2
        go_loopw [27, 28, 29, 30] (fun av iv _ _ wr => ∃ i : Nat, av = .int .i64 ((smG (ctL s) i : Nat) : Int) ∧ iv = .int .i64 (i : Int) ∧ i ≤ k ∧ wr = w3) (fun _ iv _ _ _ => k - (intOf iv).toNat)
        case atStart => exact ⟨0, rfl, rfl, by omega, rfl⟩
        case round =>
          obtain ⟨i, rfl, rfl, hi, rfl⟩ := hrel
          by_cases d : (i : Int) < (k : Int)
          · have ic := HR.out.cell (show i < k by omega)
            have i0 : (0 : Int) ≤ (i : Int) := by omega
            have sc : smG (ctL s) (i + 1) = smG (ctL s) i + ctL s i := rfl
            have sb := smG_part (ctL s) (show i + 1 ≤ k by omega)
            rw [SUM.out] at sb
            obtain ⟨S1, hS1⟩ : ∃ x, smG (ctL s) (i + 1) = x := ⟨_, rfl⟩
            obtain ⟨S0, hS0⟩ : ∃ x, smG (ctL s) i = x := ⟨_, rfl⟩
            rw [hS1, hS0] at sc
            rw [hS1] at sb
            rw [hS0]
            have HS1 := hide' hS1
            clear hS0 hS1
            go_wp2
            obtain ⟨VV, rfl⟩ : ∃ VV, VV = wr := ⟨_, rfl⟩
            go_loopw [29, 30] (fun kv jv wr => ∃ j : Nat, kv = .int .i64 ((ctL (s.take j) i : Nat) : Int) ∧ jv = .int .i64 (j : Int) ∧ j ≤ s.length ∧ wr = VV) (fun _ jv _ => s.length - (intOf jv).toNat)
            case atStart => exact ⟨0, by simp [ctL], rfl, by omega, rfl⟩
            case round =>
              obtain ⟨j, rfl, rfl, hj, rfl⟩ := hrel
              by_cases e : (j : Int) < (s.length : Int)
              · have jl : j < s.length := by omega
                have j0 : (0 : Int) ≤ (j : Int) := by omega
                obtain ⟨gj, GJ⟩ := byte_at s jl
                have CO := hide' (ct_on SA.out (i := i) jl)
                have cl : ctL (s.take j) i ≤ 40000 := Nat.le_trans (ctL_le _ _) (by rw [List.length_take]; omega)
                obtain ⟨x, hx⟩ : ∃ x, (s.getD j 0).toNat = x := ⟨_, rfl⟩
                have xb : x < 256 := by rw [← hx]; exact (s.getD j 0).toNat_lt
                rw [hx] at GJ CO
                obtain ⟨v, hv⟩ : ∃ v, ctL (s.take j) i = v := ⟨_, rfl⟩
                rw [hv] at CO cl
                rw [hv]
                clear hx hv
                by_cases f : (x : Int) - 97 = (i : Int)
                · rw [if_pos f] at CO
                  go_wp2
                  exact ⟨⟨j + 1, by rw [CO.out]; go_num, by go_num, by omega, trivial⟩, by simp [intOf]; omega⟩
                · rw [if_neg f] at CO
                  go_wp2
                  exact ⟨⟨j + 1, by rw [CO.out], by go_num, by omega, trivial⟩, by simp [intOf]; omega⟩
              · obtain rfl : j = s.length := by omega
                rw [List.take_length]
                obtain ⟨v, hv⟩ : ∃ v, ctL s i = v := ⟨_, rfl⟩
                rw [hv] at ic sc
                rw [hv]
                clear hv
                go_wp2
                exact ⟨⟨i + 1, by rw [HS1.out, sc]; go_num, by go_num, by omega, trivial⟩, by simp [intOf]; omega⟩
          · obtain rfl : i = k := by omega
            rw [SUM.out]
            clear d
            by_cases t1 : t < 0
            · by_cases m1 : m < 0
              · go_wp2
                go_ret
                exact ⟨rfl, B3.out⟩
              · by_cases m2 : 60 - m < (p : Int)
                · go_wp2
                  go_ret
                  exact ⟨rfl, B3.out⟩
                · obtain ⟨y, rfl⟩ : ∃ y : Nat, m = (y : Int) := ⟨m.toNat, by omega⟩
                  have e60 : p + y ≤ 60 := by omega
                  have TS := hide' (fun (e f : Ending) => two_same (e := e) (f := f) Q.out HS.out e60)
                  obtain ⟨z, hz⟩ : ∃ z, p + y = z := ⟨_, rfl⟩
                  rw [hz] at TS
                  have ez : (p : Int) + (y : Int) = (z : Int) := by omega
                  have GA := hide' (G2.out s S4M.out (y : Int))
                  have GB := hide' (G2.out l HLL.out (z : Int))
                  clear m1 hz
                  go_wp2_with fail
                  refine (GA.out _ B3.out).mono ?_
                  rintro o u1 ⟨h1, c1⟩
                  have D1 := hide' (B3.out.trans (c1.mono B3.out.size))
                  have H1 := hide' h1
                  clear c1 h1
                  obtain ⟨X1, Y1, hf1⟩ : ∃ (X : List UInt8) (Y : Value), o = .returned (.tuple #[.string ⟨X.toArray⟩, Y]) := by
                    rcases H1.out with ⟨_, s', _, rfl⟩ | ⟨_, _, rfl⟩ | ⟨_, rfl⟩
                    · exact ⟨_, _, rfl⟩
                    · exact ⟨[], _, rfl⟩
                    · exact ⟨[], _, rfl⟩
                  subst hf1
                  go_wp2_with fail
                  refine (GB.out _ D1.out).mono ?_
                  rintro o u2 ⟨h2, c2⟩
                  have D2 := hide' (D1.out.trans (c2.mono D1.out.size))
                  have RR := hide' (TS.out _ _ H1.out h2)
                  clear c2 h2 H1
                  rcases RR.out with ⟨T, e1, e2⟩ | ⟨e1, e2⟩
                  · simp only [Ending.returned.injEq, Value.tuple.injEq, Array.mk.injEq, List.cons.injEq, Value.string.injEq, ByteArray.mk.injEq, and_true, true_and] at e1
                    obtain ⟨e1, rfl⟩ := e1
                    rw [e1]
                    subst e2
                    clear e1 RR
                    go_wp2
                    go_quiet (fail)
                    all_goals go_wp2
                    all_goals go_ret
                    all_goals exact ⟨rfl, drewG D2.out _⟩
                  · simp only [Ending.returned.injEq, Value.tuple.injEq, Array.mk.injEq, List.cons.injEq, Value.string.injEq, ByteArray.mk.injEq, and_true, true_and] at e1
                    obtain ⟨e1, rfl⟩ := e1
                    rw [e1]
                    subst e2
                    clear e1 RR
                    go_wp2
                    go_quiet (fail)
                    all_goals go_wp2
                    all_goals go_ret
                    all_goals exact ⟨rfl, drewG D2.out _⟩
            · by_cases t2 : (s.length : Int) ≤ t
              · by_cases m1 : m < 0
                · go_wp2
                  go_ret
                  exact ⟨rfl, B3.out⟩
                · by_cases m2 : 60 - m < (p : Int)
                  · go_wp2
                    go_ret
                    exact ⟨rfl, B3.out⟩
                  · obtain ⟨y, rfl⟩ : ∃ y : Nat, m = (y : Int) := ⟨m.toNat, by omega⟩
                    have e60 : p + y ≤ 60 := by omega
                    have TS := hide' (fun (e f : Ending) => two_same (e := e) (f := f) Q.out HS.out e60)
                    obtain ⟨z, hz⟩ : ∃ z, p + y = z := ⟨_, rfl⟩
                    rw [hz] at TS
                    have ez : (p : Int) + (y : Int) = (z : Int) := by omega
                    have GA := hide' (G2.out s S4M.out (y : Int))
                    have GB := hide' (G2.out l HLL.out (z : Int))
                    clear m1 hz
                    go_wp2_with fail
                    refine (GA.out _ B3.out).mono ?_
                    rintro o u1 ⟨h1, c1⟩
                    have D1 := hide' (B3.out.trans (c1.mono B3.out.size))
                    have H1 := hide' h1
                    clear c1 h1
                    obtain ⟨X1, Y1, hf1⟩ : ∃ (X : List UInt8) (Y : Value), o = .returned (.tuple #[.string ⟨X.toArray⟩, Y]) := by
                      rcases H1.out with ⟨_, s', _, rfl⟩ | ⟨_, _, rfl⟩ | ⟨_, rfl⟩
                      · exact ⟨_, _, rfl⟩
                      · exact ⟨[], _, rfl⟩
                      · exact ⟨[], _, rfl⟩
                    subst hf1
                    go_wp2_with fail
                    refine (GB.out _ D1.out).mono ?_
                    rintro o u2 ⟨h2, c2⟩
                    have D2 := hide' (D1.out.trans (c2.mono D1.out.size))
                    have RR := hide' (TS.out _ _ H1.out h2)
                    clear c2 h2 H1
                    rcases RR.out with ⟨T, e1, e2⟩ | ⟨e1, e2⟩
                    · simp only [Ending.returned.injEq, Value.tuple.injEq, Array.mk.injEq, List.cons.injEq, Value.string.injEq, ByteArray.mk.injEq, and_true, true_and] at e1
                      obtain ⟨e1, rfl⟩ := e1
                      rw [e1]
                      subst e2
                      clear e1 RR
                      go_wp2
                      go_quiet (fail)
                      all_goals go_wp2
                      all_goals go_ret
                      all_goals exact ⟨rfl, drewG D2.out _⟩
                    · simp only [Ending.returned.injEq, Value.tuple.injEq, Array.mk.injEq, List.cons.injEq, Value.string.injEq, ByteArray.mk.injEq, and_true, true_and] at e1
                      obtain ⟨e1, rfl⟩ := e1
                      rw [e1]
                      subst e2
                      clear e1 RR
                      go_wp2
                      go_quiet (fail)
                      all_goals go_wp2
                      all_goals go_ret
                      all_goals exact ⟨rfl, drewG D2.out _⟩
              · obtain ⟨x, rfl⟩ : ∃ x : Nat, t = (x : Int) := ⟨t.toNat, by omega⟩
                have LC := hide' (LG.out p x s Q.out HC.out (by omega))
                obtain ⟨X, hX⟩ : ∃ X, x + 1 = X := ⟨_, rfl⟩
                have eX : (x : Int) + 1 = (X : Int) := by omega
                have x0 : (0 : Int) ≤ (x : Int) := by omega
                have X0 : (0 : Int) ≤ (X : Int) := by omega
                have xX : (x : Int) ≤ (X : Int) := by omega
                have XL : (X : Int) ≤ (s.length : Int) := by omega
                have xl : (x : Int) < (s.length : Int) := by omega
                have cu : (⟨s.toArray⟩ : ByteArray).extract x X = ⟨#[s.getD x 0]⟩ := by
                  rw [cut_Y, ← hX, show x + 1 - x = 1 by omega]
                  have hx : x < s.length := by omega
                  rw [List.drop_eq_getElem_cons hx, show s.getD x 0 = s[x] by simp [List.getD, hx]]
                  rfl
                obtain ⟨ch, hch⟩ : ∃ ch, s.getD x 0 = ch := ⟨_, rfl⟩
                rw [hch] at cu LC
                clear hch
                go_wp2_with fail
                refine (LC.out _ B3.out).mono ?_
                rintro o w5 ⟨rfl, b5⟩
                have B5 := hide' (B3.out.trans (b5.mono B3.out.size))
                clear b5
                by_cases m1 : m < 0
                · go_wp2
                  go_ret
                  exact ⟨rfl, B5.out⟩
                · by_cases m2 : 60 - m < (p : Int)
                  · go_wp2
                    go_ret
                    exact ⟨rfl, B5.out⟩
                  · obtain ⟨y, rfl⟩ : ∃ y : Nat, m = (y : Int) := ⟨m.toNat, by omega⟩
                    have e60 : p + y ≤ 60 := by omega
                    have TS := hide' (fun (e f : Ending) => two_same (e := e) (f := f) Q.out HS.out e60)
                    obtain ⟨z, hz⟩ : ∃ z, p + y = z := ⟨_, rfl⟩
                    rw [hz] at TS
                    have ez : (p : Int) + (y : Int) = (z : Int) := by omega
                    have GA := hide' (G2.out s S4M.out (y : Int))
                    have GB := hide' (G2.out l HLL.out (z : Int))
                    clear m1 hz
                    go_wp2_with fail
                    refine (GA.out _ B5.out).mono ?_
                    rintro o u1 ⟨h1, c1⟩
                    have D1 := hide' (B5.out.trans (c1.mono B5.out.size))
                    have H1 := hide' h1
                    clear c1 h1
                    obtain ⟨X1, Y1, hf1⟩ : ∃ (X : List UInt8) (Y : Value), o = .returned (.tuple #[.string ⟨X.toArray⟩, Y]) := by
                      rcases H1.out with ⟨_, s', _, rfl⟩ | ⟨_, _, rfl⟩ | ⟨_, rfl⟩
                      · exact ⟨_, _, rfl⟩
                      · exact ⟨[], _, rfl⟩
                      · exact ⟨[], _, rfl⟩
                    subst hf1
                    go_wp2_with fail
                    refine (GB.out _ D1.out).mono ?_
                    rintro o u2 ⟨h2, c2⟩
                    have D2 := hide' (D1.out.trans (c2.mono D1.out.size))
                    have RR := hide' (TS.out _ _ H1.out h2)
                    clear c2 h2 H1
                    rcases RR.out with ⟨T, e1, e2⟩ | ⟨e1, e2⟩
                    · simp only [Ending.returned.injEq, Value.tuple.injEq, Array.mk.injEq, List.cons.injEq, Value.string.injEq, ByteArray.mk.injEq, and_true, true_and] at e1
                      obtain ⟨e1, rfl⟩ := e1
                      rw [e1]
                      subst e2
                      clear e1 RR
                      go_wp2
                      go_quiet (fail)
                      all_goals go_wp2
                      all_goals go_ret
                      all_goals exact ⟨rfl, drewG D2.out _⟩
                    · simp only [Ending.returned.injEq, Value.tuple.injEq, Array.mk.injEq, List.cons.injEq, Value.string.injEq, ByteArray.mk.injEq, and_true, true_and] at e1
                      obtain ⟨e1, rfl⟩ := e1
                      rw [e1]
                      subst e2
                      clear e1 RR
                      go_wp2
                      go_quiet (fail)
                      all_goals go_wp2
                      all_goals go_ret
                      all_goals exact ⟨rfl, drewG D2.out _⟩
      · rw [Int.toNat_natCast, HC.out] at hs'
        cases hs'
      · exact absurd Q.out q
    · go_wp2
      go_ret
      exact ⟨rfl, B2.out⟩
    · rw [errOf_no q]
      go_wp2
      go_ret
      exact ⟨rfl, B2.out⟩
end Go.Proofs.Ytmnacanjbhlfeaa

namespace Go.Proofs.Ytmnacanjbhlfeaa
open Go.RowKit
theorem law_free_all (xs : List (List UInt8)) (a : Option Addr) (k c : Nat) (l : List UInt8) (n m t : Int) (w : World) (hA : ArgX w xs a k c) (hl : l.length ≤ maxLen) (hm : m ≤ 9223372036854775807) :
    Calls Try.prog 4 #[.slice a k c, .string ⟨l.toArray⟩, .int .i64 n, .int .i64 m, .int .i64 t] w fun e w' => e = .returned (.bool true) ∧ Below w.heap.size w w' := by
  by_cases h0 : n < 0
  · exact law_free_A xs a k c l n m t w hA hl hm h0
  · by_cases h1 : 15 < n
    · exact law_free_B xs a k c l n m t w hA hl hm h1
    · exact law_free_C xs a k c l n m t w hA hl hm (by omega) (by omega)
end Go.Proofs.Ytmnacanjbhlfeaa

