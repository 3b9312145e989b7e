/-
  What the last text of this claim leans on, part 13: Ref7.
-/
import Derived.Test.YtjngjnkecnnmeaaDoorJa4
import Derived.Test.YtjngjnkecnnmeaaDoorJa12
import Derived.Deep.AppendLies
import Derived.Deep.RegionLaw
namespace Go.Proofs.YtjngjnkecnnmeaaDoor
open Go.RowKit
set_option linter.unusedVariables false

theorem wrapdig (t : Nat) (h1 : 48 ≤ t) (h2 : t ≤ 255) : IntKind.i64.wrap (IntKind.i64.wrap (t : Int) - 48) = (t : Int) - 48 := by
  rw [IntKind.wrap_i64, IntKind.wrap_i64]; omega
theorem powS_small (n m : Nat) (hn : 2 ≤ n) (hn' : n ≤ 4) (hm : m ≤ 2) : powS n (2 * m + 1) = entries n m ∧ entries n m ≤ 1024 := by
  have h1 : n = 2 ∨ n = 3 ∨ n = 4 := by omega
  have h2 : m = 0 ∨ m = 1 ∨ m = 2 := by omega
  rcases h1 with rfl | rfl | rfl <;> rcases h2 with rfl | rfl | rfl <;> decide

set_option maxRecDepth 100000 in
set_option maxHeartbeats 8000000 in
theorem ref_L6 (s : ByteArray) (w : World) (hs : s.size ≤ maxLen) (h0 : 0 < s.size) (hk : bt s 0 = 76) (hlt1 : 1 < s.size) (hc1 : bt s 1 = 32) (K : Nat) (hK : (num s 2).2 = K) (hn : numOk s 2 2 4 = true) (hltK : K < s.size) (hcK : bt s K = 32) (J : Nat) (hJ : (num s (K + 1)).2 = J) (hm : numOk s (K + 1) 0 2 = true) (hltJ : J < s.size) (hcJ : bt s J = 32) :
    Calls Tryd.prog 13 #[.string s] w fun e w' => RefParsed (fin s (tabEnd s (num s 2).1 (num s (K + 1)).1 J)) w e w' := by
  have hne := not_empty h0
  have hs' := hs
  unfold maxLen at hs'
  have e0 := bt_lt s 0 h0
  have k0 : ((s[0].toNat : Int) == 66) = false := by simp; omega
  have k1 : ((s[0].toNat : Int) == 87) = false := by simp; omega
  have k2 : ((s[0].toNat : Int) == 76) = true := by simp; omega
  clear e0
  have a1 : ¬ (s.size : Int) ≤ 1 := by omega
  have e1 := bt_lt s 1 hlt1
  have a2 : ((s[1].toNat : Int) != 32) = false := by rw [bne_eq_false_iff_eq]; omega
  clear e1
  have HK := hide' hK
  clear hK
  have c1 : ¬ (s.size : Int) ≤ (K : Int) := by omega
  have e2 := bt_lt s K hltK
  have c2 : ((s[K].toNat : Int) != 32) = false := by rw [bne_eq_false_iff_eq]; omega
  clear e2
  have HJ := hide' hJ
  clear hJ
  have f1 : ¬ (s.size : Int) ≤ (J : Int) := by omega
  have e3 := bt_lt s J hltJ
  have f2 : ((s[J].toNat : Int) != 32) = false := by rw [bne_eq_false_iff_eq]; omega
  clear e3
  obtain ⟨i0, hi, hz0, hz1, hz2⟩ := info_parts info_int
  go_enter Tryd.func13, Tryd.ntmps13
  go_wp2_with fail
  refine (Number_any s 2 _ _ (by omega) hs (by omega)).mono ?_
  rw [HK.out]
  rintro e w1 ⟨N, rfl, hN, rfl⟩
  obtain ⟨h1, h2, h3⟩ := hN.ok 2 4 (by omega) hn
  obtain ⟨n, hn'⟩ : ∃ n, n = (num s 2).1 := ⟨_, rfl⟩
  rw [← hn'] at h1
  subst h1
  have b1 : ¬ (n : Int) < 2 := by omega
  have b2 : ¬ 4 < (n : Int) := by omega
  have HV := hide' hn'
  clear hN h2 h3 hn'
  go_wp2_with fail
  refine (Number_any s (K + 1) _ _ (by omega) hs (by omega)).mono ?_
  rw [HJ.out]
  rintro e w2 ⟨M, rfl, hM, rfl⟩
  obtain ⟨h1, h2, h3⟩ := hM.ok 0 2 (by omega) hm
  obtain ⟨m, hm'⟩ : ∃ m, m = (num s (K + 1)).1 := ⟨_, rfl⟩
  rw [← hm'] at h1
  subst h1
  have d1 : ¬ (m : Int) < 0 := by omega
  have d2 : ¬ 2 < (m : Int) := by omega
  have HW := hide' hm'
  clear hM h2 h3 hm'
  obtain ⟨E, hE⟩ : ∃ E, E = powS n (2 * m + 1) := ⟨_, rfl⟩
  obtain ⟨p1, p2⟩ := powS_small n m (by omega) (by omega) (by omega)
  have hEl : E ≤ 1024 := by omega
  have HE := hide' (hE.trans p1)
  have HP := hide' hE
  clear hE p1 p2
  go_wp2_with fail
  refine (power_any n (2 * m + 1) _ _ _ rfl (by omega) (by omega) (by omega) (by omega)).mono ?_
  rw [← HP.out]
  rintro e w3 ⟨rfl, rfl⟩
  have S := hide' (RefW.start w 2 n m)
  obtain ⟨X, hX⟩ : ∃ X, X = tabF s (48 + (n : Int) - 1) E (J + 1) := ⟨_, rfl⟩
  have HX := hide' hX
  clear hX
  go_wp2
  go_loopw [17, 19] (fun jv xv wr => ∃ (x : Nat) (v : Value), xv = .int .i64 (x : Int) ∧ jv = .int .i64 ((J + 1 + x : Nat) : Int) ∧ x ≤ E ∧ J + 1 + x ≤ s.size ∧ tabF s (48 + (n : Int) - 1) (E - x) (J + 1 + x) + x = X ∧ RefW w wr 2 n m v ((List.range x).map (fun y => (bt s (J + 1 + y) : Int) - 48))) (fun _ xv _ => E - (intOf xv).toNat)
  case atStart => exact ⟨0, .slice none 0 0, rfl, by simp, by omega, by omega, HX.out.symm, S.out⟩
  case round =>
    obtain ⟨x, v, rfl, rfl, hx, hJx, hXe, hR⟩ := hrel
    obtain ⟨I, hI⟩ : ∃ I, I = J + 1 + x := ⟨_, rfl⟩
    rw [← hI] at hJx hXe ⊢
    have HI := hide' hI
    have HXE := hide' hXe
    have HR := hide' hR
    have hz := hR.size
    have ho := hR.own
    have d5 := hR.rr.c5
    have y5 := hR.fz (w.heap.size + 1) 5 (by omega) (by omega)
    obtain ⟨sa, sn, sc, rfl⟩ := ownsRow_slice ho
    clear hI hXe hR S
    by_cases c : (x : Int) < (E : Int)
    · cases hin : inR s I 48 (48 + (n : Int) - 1) with
      | true =>
        have c1 := (inR_true.1 hin).1
        have hb := (inR_true.1 hin).2
        have e4 := bt_lt s I c1
        have q1 : ¬ (s.size : Int) ≤ (I : Int) := by omega
        have q2 : ¬ (s[I].toNat : Int) < 48 := by omega
        have q3 : ¬ (n : Int) ≤ (s[I].toNat : Int) - 48 := by omega
        have HIN := hide' hin
        have E4 := hide' e4
        have HO := hide' ho
        have d6 : ∀ o, (wr.alloc o).cell? ⟨w.heap.size + 1, 5, none⟩ = some (.slice sa sn sc) := fun o => (World.cell?_alloc_lt wr o ⟨w.heap.size + 1, 5, none⟩ (by simp; omega)).trans d5
        clear ho hin hb e4
        go_wp2
        go_region_law (refine step_append_lies _ (by rfl) _ _ _ (by rfl) (w.heap.size + 3) 3 i0 _ 1 8 Tryd.underlying22 hi hz0 hz1 hz2 rfl (by omega) (.slice sa sn sc) _ _ (by rfl) ((HO.out.alloc _).drew) ⟨wr.heap.size, 0, none⟩ 1 1 [.int .i64 (IntKind.i64.wrap (IntKind.i64.wrap (s[I].toNat : Int) - 48))] (by rfl) (by rfl) (World.news_of_block (cs := #[.int .i64 (IntKind.i64.wrap (IntKind.i64.wrap (s[I].toNat : Int) - 48))]) (t := 3) (fr := (0, 0)) (heap_alloc_new wr _)) (by simp [Value.oneCell']) (by omega) (by unfold maxLen; simp; omega) (by simp; omega) (by simp; omega) (wr.heap.size + 1) (by simp) ?_; intro gg cap w1 hown1 hgrow hat hlt; have x5 := (HR.out.mid (grownBy_drew hgrow)).1; have x6 := (HR.out.mid (grownBy_drew hgrow)).2)
        all_goals
          go_wp2
          have e4 := E4.out
          have hp := HR.out.push (grownBy_drew hgrow) hown1
          rw [wrapdig _ (by omega) (by omega)] at hp
          simp only [List.length_map, List.length_range] at hp
          refine ⟨⟨x + 1, .slice (some ⟨gg, 0, none⟩) (x + 1) cap, by go_num, ?_, by omega, by have := HI.out; omega, ?_, ?_⟩, by simp [intOf]; omega⟩
          · rw [show (I : Int) + 1 = ((J + 1 + (x + 1) : Nat) : Int) by have := HI.out; omega]
          · have := (tabF_step (k := x) (N := E) (by omega) HIN.out).symm.trans HXE.out
            rw [HI.out] at this
            exact this
          · rw [List.range_succ, List.map_append]
            rw [e4, HI.out] at hp
            exact hp
      | false =>
        have X1 := hide' (show fin s (tabEnd s n m J) = .inr I by
          have x1 := HXE.out
          rw [tabF_stop hin] at x1
          have x2 := HX.out
          rw [← x1] at x2
          unfold tabEnd
          rw [← HE.out, ← x2, if_pos (by omega), HI.out]; rfl)
        have hno := inR_false.1 hin
        clear hin
        have R := HR.out
        obtain ⟨n0, n1, n2, n3, n4, n5, n6⟩ := R.no
        obtain ⟨r0, r1, r2, r3, r4, r5, r6⟩ := R.rr
        obtain ⟨t0, t1, t2, t3, t4, t5, t6⟩ := R.res
        have yf : ∀ j, wr.frozen? ⟨w.heap.size, j, none⟩ = false := fun j => R.fz _ j (by omega) (by omega)
        clear R ho
        by_cases c1 : I < s.size
        · have e4 := bt_lt s I c1
          have q1 : ¬ (s.size : Int) ≤ (I : Int) := by omega
          by_cases c2 : bt s I < 48
          · have q2 : (s[I].toNat : Int) < 48 := by omega
            clear hno e4 c2
            go_wp2
            refine bodyPost_ret (v := .tuple #[.agg zeroCells, .int .i64 (I : Int), .bool false]) (by simp [results, Tryd.results13, go_sem, zeroCells, t0, t1, t2, t3, t4, t5, t6]) rfl ?_
            rw [← HV.out, ← HW.out, X1.out]
            refine RefParsed.bad ?_
            exact setRule_below HR.out.below (Nat.le_refl _) (.int .i64 0) (.int .i64 0) (.int .i64 0) (.int .i64 0) (.int .i64 0) (.slice none 0 0) (.string ⟨#[]⟩)
          · have q2 : ¬ (s[I].toNat : Int) < 48 := by omega
            have q3 : (n : Int) ≤ (s[I].toNat : Int) - 48 := by omega
            have q4 : (s[I].toNat : Int) ≤ 255 := by have := bt_le s I; omega
            clear hno e4 c2
            go_wp2
            refine bodyPost_ret (v := .tuple #[.agg zeroCells, .int .i64 (I : Int), .bool false]) (by simp [results, Tryd.results13, go_sem, zeroCells, t0, t1, t2, t3, t4, t5, t6]) rfl ?_
            rw [← HV.out, ← HW.out, X1.out]
            refine RefParsed.bad ?_
            exact setRule_below HR.out.below (Nat.le_refl _) (.int .i64 0) (.int .i64 0) (.int .i64 0) (.int .i64 0) (.int .i64 0) (.slice none 0 0) (.string ⟨#[]⟩)
        · have q1 : (s.size : Int) ≤ (I : Int) := by omega
          clear hno
          go_wp2
          refine bodyPost_ret (v := .tuple #[.agg zeroCells, .int .i64 (I : Int), .bool false]) (by simp [results, Tryd.results13, go_sem, zeroCells, t0, t1, t2, t3, t4, t5, t6]) rfl ?_
          rw [← HV.out, ← HW.out, X1.out]
          refine RefParsed.bad ?_
          exact setRule_below HR.out.below (Nat.le_refl _) (.int .i64 0) (.int .i64 0) (.int .i64 0) (.int .i64 0) (.int .i64 0) (.slice none 0 0) (.string ⟨#[]⟩)
    · have XX := hide' (show x = E by omega)
      have X1 := hide' (show tabEnd s n m J = .inl (⟨2, 0, 0, n, m, (List.range E).map (fun y => (bt s (J + 1 + y) : Int) - 48), ⟨#[]⟩⟩, I) by
        have x1 := HXE.out
        rw [XX.out] at x1
        simp [tabF] at x1
        have x2 := HX.out
        rw [← x1] at x2
        unfold tabEnd
        rw [← HE.out, if_neg (by rw [← x2]; omega), HI.out, XX.out])
      have R := HR.out
      obtain ⟨n0, n1, n2, n3, n4, n5, n6⟩ := R.no
      obtain ⟨r0, r1, r2, r3, r4, r5, r6⟩ := R.rr
      obtain ⟨t0, t1, t2, t3, t4, t5, t6⟩ := R.res
      have yf : ∀ j, wr.frozen? ⟨w.heap.size, j, none⟩ = false := fun j => R.fz _ j (by omega) (by omega)
      clear R ho
      by_cases c1 : I < s.size
      · have q1 : (I : Int) < (s.size : Int) := by omega
        have X2 := hide' (show fin s (tabEnd s n m J) = .inr I by rw [X1.out]; exact if_neg (by omega))
        go_wp2
        refine bodyPost_ret (v := .tuple #[.agg zeroCells, .int .i64 (I : Int), .bool false]) (by simp [results, Tryd.results13, go_sem, zeroCells, t0, t1, t2, t3, t4, t5, t6]) rfl ?_
        rw [← HV.out, ← HW.out, X2.out]
        refine RefParsed.bad ?_
        exact setRule_below HR.out.below (Nat.le_refl _) (.int .i64 0) (.int .i64 0) (.int .i64 0) (.int .i64 0) (.int .i64 0) (.slice none 0 0) (.string ⟨#[]⟩)
      · have q1 : ¬ (I : Int) < (s.size : Int) := by omega
        have X2 := hide' (show fin s (tabEnd s n m J) = .inl ⟨2, 0, 0, n, m, (List.range E).map (fun y => (bt s (J + 1 + y) : Int) - 48), ⟨#[]⟩⟩ by rw [X1.out]; exact if_pos (by omega))
        go_wp2
        refine bodyPost_ret (v := .tuple #[Out.val ⟨2, 0, 0, n, m, (List.range E).map (fun y => (bt s (J + 1 + y) : Int) - 48), ⟨#[]⟩⟩ (.slice sa sn sc), .int .i64 0, .bool true]) (by simp [results, Tryd.results13, go_sem, Out.val, t0, t1, t2, t3, t4, t5, t6]) rfl ?_
        rw [← HV.out, ← HW.out, X2.out]
        have B := setRule_below HR.out.below (Nat.le_refl _) (.int .i64 2) (.int .i64 0) (.int .i64 0) (.int .i64 (n : Int)) (.int .i64 (m : Int)) (.slice sa sn sc) (.string ⟨#[]⟩)
        have T := ownsRow_tab HR.out.own
        rw [XX.out] at T
        refine ⟨_, rfl, T.block (setRule_size wr w.heap.size (.int .i64 2) (.int .i64 0) (.int .i64 0) (.int .i64 (n : Int)) (.int .i64 (m : Int)) (.slice sa sn sc) (.string ⟨#[]⟩)) (fun g k c q => setRule_block wr w.heap.size g (.int .i64 2) (.int .i64 0) (.int .i64 0) (.int .i64 (n : Int)) (.int .i64 (m : Int)) (.slice sa sn sc) (.string ⟨#[]⟩) ?_), B⟩
        have := ownsRow_block HR.out.own g (by rw [q]; rfl)
        omega
end Go.Proofs.YtjngjnkecnnmeaaDoor

