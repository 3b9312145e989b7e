/-
  What the last text of this claim leans on, part 44: Ref7, Pr22.
-/
import Derived.Test.YtljdidimoagnhaaDoorJk4
import Derived.Test.YtljdidimoagnhaaDoorJk43
import Derived.Test.YtljdidimoagnhaaDoorJk42
import Derived.Deep.AppendLies
import Derived.Deep.RegionLaw
namespace Go.Proofs.YtljdidimoagnhaaDoor
open Go.RowKit
set_option linter.unusedVariables false

theorem wrapdig (t : Nat) (h1 : 48 ≤ t) (h2 : t ≤ 255) : IntKind.i64.wrap (IntKind.i64.wrap (t : Int) - 48) = (t : Int) - 48 := by
  rw [IntKind.wrap_i64, IntKind.wrap_i64]; omega
theorem powS_small (n m : Nat) (hn : 2 ≤ n) (hn' : n ≤ 4) (hm : m ≤ 2) : powS n (2 * m + 1) = entries n m ∧ entries n m ≤ 1024 := by
  have h1 : n = 2 ∨ n = 3 ∨ n = 4 := by omega
  have h2 : m = 0 ∨ m = 1 ∨ m = 2 := by omega
  rcases h1 with rfl | rfl | rfl <;> rcases h2 with rfl | rfl | rfl <;> decide

set_option maxRecDepth 100000 in
set_option maxHeartbeats 8000000 in
theorem ref_L6 (s : ByteArray) (w : World) (hs : s.size ≤ maxLen) (h0 : 0 < s.size) (hk : bt s 0 = 76) (hlt1 : 1 < s.size) (hc1 : bt s 1 = 32) (K : Nat) (hK : (num s 2).2 = K) (hn : numOk s 2 2 4 = true) (hltK : K < s.size) (hcK : bt s K = 32) (J : Nat) (hJ : (num s (K + 1)).2 = J) (hm : numOk s (K + 1) 0 2 = true) (hltJ : J < s.size) (hcJ : bt s J = 32) :
    Calls Tryd.prog 17 #[.string s] w fun e w' => RefParsed (fin s (tabEnd s (num s 2).1 (num s (K + 1)).1 J)) w e w' := by
  have hne := not_empty h0
  have hs' := hs
  unfold maxLen at hs'
  have e0 := bt_lt s 0 h0
  have k0 : ((s[0].toNat : Int) == 66) = false := by simp; omega
  have k1 : ((s[0].toNat : Int) == 87) = false := by simp; omega
  have k2 : ((s[0].toNat : Int) == 76) = true := by simp; omega
  clear e0
  have a1 : ¬ (s.size : Int) ≤ 1 := by omega
  have e1 := bt_lt s 1 hlt1
  have a2 : ((s[1].toNat : Int) != 32) = false := by rw [bne_eq_false_iff_eq]; omega
  clear e1
  have HK := hide' hK
  clear hK
  have c1 : ¬ (s.size : Int) ≤ (K : Int) := by omega
  have e2 := bt_lt s K hltK
  have c2 : ((s[K].toNat : Int) != 32) = false := by rw [bne_eq_false_iff_eq]; omega
  clear e2
  have HJ := hide' hJ
  clear hJ
  have f1 : ¬ (s.size : Int) ≤ (J : Int) := by omega
  have e3 := bt_lt s J hltJ
  have f2 : ((s[J].toNat : Int) != 32) = false := by rw [bne_eq_false_iff_eq]; omega
  clear e3
  obtain ⟨i0, hi, hz0, hz1, hz2⟩ := info_parts info_int
  go_enter Tryd.func17, Tryd.ntmps17
  go_wp2_with fail
  refine (Number_any s 2 _ _ (by omega) hs (by omega)).mono ?_
  rw [HK.out]
  rintro e w1 ⟨N, rfl, hN, rfl⟩
  obtain ⟨h1, h2, h3⟩ := hN.ok 2 4 (by omega) hn
  obtain ⟨n, hn'⟩ : ∃ n, n = (num s 2).1 := ⟨_, rfl⟩
  rw [← hn'] at h1
  subst h1
  have b1 : ¬ (n : Int) < 2 := by omega
  have b2 : ¬ 4 < (n : Int) := by omega
  have HV := hide' hn'
  clear hN h2 h3 hn'
  go_wp2_with fail
  refine (Number_any s (K + 1) _ _ (by omega) hs (by omega)).mono ?_
  rw [HJ.out]
  rintro e w2 ⟨M, rfl, hM, rfl⟩
  obtain ⟨h1, h2, h3⟩ := hM.ok 0 2 (by omega) hm
  obtain ⟨m, hm'⟩ : ∃ m, m = (num s (K + 1)).1 := ⟨_, rfl⟩
  rw [← hm'] at h1
  subst h1
  have d1 : ¬ (m : Int) < 0 := by omega
  have d2 : ¬ 2 < (m : Int) := by omega
  have HW := hide' hm'
  clear hM h2 h3 hm'
  obtain ⟨E, hE⟩ : ∃ E, E = powS n (2 * m + 1) := ⟨_, rfl⟩
  obtain ⟨p1, p2⟩ := powS_small n m (by omega) (by omega) (by omega)
  have hEl : E ≤ 1024 := by omega
  have HE := hide' (hE.trans p1)
  have HP := hide' hE
  clear hE p1 p2
  go_wp2_with fail
  refine (power_any n (2 * m + 1) _ _ _ rfl (by omega) (by omega) (by omega) (by omega)).mono ?_
  rw [← HP.out]
  rintro e w3 ⟨rfl, rfl⟩
  have S := hide' (RefW.start w 2 n m)
  obtain ⟨X, hX⟩ : ∃ X, X = tabF s (48 + (n : Int) - 1) E (J + 1) := ⟨_, rfl⟩
  have HX := hide' hX
  clear hX
  go_wp2
  go_loopw [17, 19] (fun jv xv wr => ∃ (x : Nat) (v : Value), xv = .int .i64 (x : Int) ∧ jv = .int .i64 ((J + 1 + x : Nat) : Int) ∧ x ≤ E ∧ J + 1 + x ≤ s.size ∧ tabF s (48 + (n : Int) - 1) (E - x) (J + 1 + x) + x = X ∧ RefW w wr 2 n m v ((List.range x).map (fun y => (bt s (J + 1 + y) : Int) - 48))) (fun _ xv _ => E - (intOf xv).toNat)
  case atStart => exact ⟨0, .slice none 0 0, rfl, by simp, by omega, by omega, HX.out.symm, S.out⟩
  case round =>
    obtain ⟨x, v, rfl, rfl, hx, hJx, hXe, hR⟩ := hrel
    obtain ⟨I, hI⟩ : ∃ I, I = J + 1 + x := ⟨_, rfl⟩
    rw [← hI] at hJx hXe ⊢
    have HI := hide' hI
    have HXE := hide' hXe
    have HR := hide' hR
    have hz := hR.size
    have ho := hR.own
    have d5 := hR.rr.c5
    have y5 := hR.fz (w.heap.size + 1) 5 (by omega) (by omega)
    obtain ⟨sa, sn, sc, rfl⟩ := ownsRow_slice ho
    clear hI hXe hR S
    by_cases c : (x : Int) < (E : Int)
    · cases hin : inR s I 48 (48 + (n : Int) - 1) with
      | true =>
        have c1 := (inR_true.1 hin).1
        have hb := (inR_true.1 hin).2
        have e4 := bt_lt s I c1
        have q1 : ¬ (s.size : Int) ≤ (I : Int) := by omega
        have q2 : ¬ (s[I].toNat : Int) < 48 := by omega
        have q3 : ¬ (n : Int) ≤ (s[I].toNat : Int) - 48 := by omega
        have HIN := hide' hin
        have E4 := hide' e4
        have HO := hide' ho
        have d6 : ∀ o, (wr.alloc o).cell? ⟨w.heap.size + 1, 5, none⟩ = some (.slice sa sn sc) := fun o => (World.cell?_alloc_lt wr o ⟨w.heap.size + 1, 5, none⟩ (by simp; omega)).trans d5
        clear ho hin hb e4
        go_wp2
        go_region_law (refine step_append_lies _ (by rfl) _ _ _ (by rfl) (w.heap.size + 3) 3 i0 _ 1 8 Tryd.underlying22 hi hz0 hz1 hz2 rfl (by omega) (.slice sa sn sc) _ _ (by rfl) ((HO.out.alloc _).drew) ⟨wr.heap.size, 0, none⟩ 1 1 [.int .i64 (IntKind.i64.wrap (IntKind.i64.wrap (s[I].toNat : Int) - 48))] (by rfl) (by rfl) (World.news_of_block (cs := #[.int .i64 (IntKind.i64.wrap (IntKind.i64.wrap (s[I].toNat : Int) - 48))]) (t := 3) (fr := (0, 0)) (heap_alloc_new wr _)) (by simp [Value.oneCell']) (by omega) (by unfold maxLen; simp; omega) (by simp; omega) (by simp; omega) (wr.heap.size + 1) (by simp) ?_; intro gg cap w1 hown1 hgrow hat hlt; have x5 := (HR.out.mid (grownBy_drew hgrow)).1; have x6 := (HR.out.mid (grownBy_drew hgrow)).2)
        all_goals
          go_wp2
          have e4 := E4.out
          have hp := HR.out.push (grownBy_drew hgrow) hown1
          rw [wrapdig _ (by omega) (by omega)] at hp
          simp only [List.length_map, List.length_range] at hp
          refine ⟨⟨x + 1, .slice (some ⟨gg, 0, none⟩) (x + 1) cap, by go_num, ?_, by omega, by have := HI.out; omega, ?_, ?_⟩, by simp [intOf]; omega⟩
          · rw [show (I : Int) + 1 = ((J + 1 + (x + 1) : Nat) : Int) by have := HI.out; omega]
          · have := (tabF_step (k := x) (N := E) (by omega) HIN.out).symm.trans HXE.out
            rw [HI.out] at this
            exact this
          · rw [List.range_succ, List.map_append]
            rw [e4, HI.out] at hp
            exact hp
      | false =>
        have X1 := hide' (show fin s (tabEnd s n m J) = .inr I by
          have x1 := HXE.out
          rw [tabF_stop hin] at x1
          have x2 := HX.out
          rw [← x1] at x2
          unfold tabEnd
          rw [← HE.out, ← x2, if_pos (by omega), HI.out]; rfl)
        have hno := inR_false.1 hin
        clear hin
        have R := HR.out
        obtain ⟨n0, n1, n2, n3, n4, n5, n6⟩ := R.no
        obtain ⟨r0, r1, r2, r3, r4, r5, r6⟩ := R.rr
        obtain ⟨t0, t1, t2, t3, t4, t5, t6⟩ := R.res
        have yf : ∀ j, wr.frozen? ⟨w.heap.size, j, none⟩ = false := fun j => R.fz _ j (by omega) (by omega)
        clear R ho
        by_cases c1 : I < s.size
        · have e4 := bt_lt s I c1
          have q1 : ¬ (s.size : Int) ≤ (I : Int) := by omega
          by_cases c2 : bt s I < 48
          · have q2 : (s[I].toNat : Int) < 48 := by omega
            clear hno e4 c2
            go_wp2
            refine bodyPost_ret (v := .tuple #[.agg zeroCells, .int .i64 (I : Int), .bool false]) (by simp [results, Tryd.results17, go_sem, zeroCells, t0, t1, t2, t3, t4, t5, t6]) rfl ?_
            rw [← HV.out, ← HW.out, X1.out]
            refine RefParsed.bad ?_
            exact setRule_below HR.out.below (Nat.le_refl _) (.int .i64 0) (.int .i64 0) (.int .i64 0) (.int .i64 0) (.int .i64 0) (.slice none 0 0) (.string ⟨#[]⟩)
          · have q2 : ¬ (s[I].toNat : Int) < 48 := by omega
            have q3 : (n : Int) ≤ (s[I].toNat : Int) - 48 := by omega
            have q4 : (s[I].toNat : Int) ≤ 255 := by have := bt_le s I; omega
            clear hno e4 c2
            go_wp2
            refine bodyPost_ret (v := .tuple #[.agg zeroCells, .int .i64 (I : Int), .bool false]) (by simp [results, Tryd.results17, go_sem, zeroCells, t0, t1, t2, t3, t4, t5, t6]) rfl ?_
            rw [← HV.out, ← HW.out, X1.out]
            refine RefParsed.bad ?_
            exact setRule_below HR.out.below (Nat.le_refl _) (.int .i64 0) (.int .i64 0) (.int .i64 0) (.int .i64 0) (.int .i64 0) (.slice none 0 0) (.string ⟨#[]⟩)
        · have q1 : (s.size : Int) ≤ (I : Int) := by omega
          clear hno
          go_wp2
          refine bodyPost_ret (v := .tuple #[.agg zeroCells, .int .i64 (I : Int), .bool false]) (by simp [results, Tryd.results17, go_sem, zeroCells, t0, t1, t2, t3, t4, t5, t6]) rfl ?_
          rw [← HV.out, ← HW.out, X1.out]
          refine RefParsed.bad ?_
          exact setRule_below HR.out.below (Nat.le_refl _) (.int .i64 0) (.int .i64 0) (.int .i64 0) (.int .i64 0) (.int .i64 0) (.slice none 0 0) (.string ⟨#[]⟩)
    · have XX := hide' (show x = E by omega)
      have X1 := hide' (show tabEnd s n m J = .inl (⟨2, 0, 0, n, m, (List.range E).map (fun y => (bt s (J + 1 + y) : Int) - 48), ⟨#[]⟩⟩, I) by
        have x1 := HXE.out
        rw [XX.out] at x1
        simp [tabF] at x1
        have x2 := HX.out
        rw [← x1] at x2
        unfold tabEnd
        rw [← HE.out, if_neg (by rw [← x2]; omega), HI.out, XX.out])
      have R := HR.out
      obtain ⟨n0, n1, n2, n3, n4, n5, n6⟩ := R.no
      obtain ⟨r0, r1, r2, r3, r4, r5, r6⟩ := R.rr
      obtain ⟨t0, t1, t2, t3, t4, t5, t6⟩ := R.res
      have yf : ∀ j, wr.frozen? ⟨w.heap.size, j, none⟩ = false := fun j => R.fz _ j (by omega) (by omega)
      clear R ho
      by_cases c1 : I < s.size
      · have q1 : (I : Int) < (s.size : Int) := by omega
        have X2 := hide' (show fin s (tabEnd s n m J) = .inr I by rw [X1.out]; exact if_neg (by omega))
        go_wp2
        refine bodyPost_ret (v := .tuple #[.agg zeroCells, .int .i64 (I : Int), .bool false]) (by simp [results, Tryd.results17, go_sem, zeroCells, t0, t1, t2, t3, t4, t5, t6]) rfl ?_
        rw [← HV.out, ← HW.out, X2.out]
        refine RefParsed.bad ?_
        exact setRule_below HR.out.below (Nat.le_refl _) (.int .i64 0) (.int .i64 0) (.int .i64 0) (.int .i64 0) (.int .i64 0) (.slice none 0 0) (.string ⟨#[]⟩)
      · have q1 : ¬ (I : Int) < (s.size : Int) := by omega
        have X2 := hide' (show fin s (tabEnd s n m J) = .inl ⟨2, 0, 0, n, m, (List.range E).map (fun y => (bt s (J + 1 + y) : Int) - 48), ⟨#[]⟩⟩ by rw [X1.out]; exact if_pos (by omega))
        go_wp2
        refine bodyPost_ret (v := .tuple #[Out.val ⟨2, 0, 0, n, m, (List.range E).map (fun y => (bt s (J + 1 + y) : Int) - 48), ⟨#[]⟩⟩ (.slice sa sn sc), .int .i64 0, .bool true]) (by simp [results, Tryd.results17, go_sem, Out.val, t0, t1, t2, t3, t4, t5, t6]) rfl ?_
        rw [← HV.out, ← HW.out, X2.out]
        have B := setRule_below HR.out.below (Nat.le_refl _) (.int .i64 2) (.int .i64 0) (.int .i64 0) (.int .i64 (n : Int)) (.int .i64 (m : Int)) (.slice sa sn sc) (.string ⟨#[]⟩)
        have T := ownsRow_tab HR.out.own
        rw [XX.out] at T
        refine ⟨_, rfl, T.block (setRule_size wr w.heap.size (.int .i64 2) (.int .i64 0) (.int .i64 0) (.int .i64 (n : Int)) (.int .i64 (m : Int)) (.slice sa sn sc) (.string ⟨#[]⟩)) (fun g k c q => setRule_block wr w.heap.size g (.int .i64 2) (.int .i64 0) (.int .i64 0) (.int .i64 (n : Int)) (.int .i64 (m : Int)) (.slice sa sn sc) (.string ⟨#[]⟩) ?_), B⟩
        have := ownsRow_block HR.out.own g (by rw [q]; rfl)
        omega
end Go.Proofs.YtljdidimoagnhaaDoor

namespace Go.Proofs.YtljdidimoagnhaaDoor
open Go.RowKit
set_option linter.unusedVariables false

theorem RefM.mid {w wr w' : World} {o : Out} {a : Option Addr} {n c : Nat} {x : Int} {v : Value} {xs : List Int} (h : RefM w wr o a n c v xs)
    (hg : (wr.alloc (.cells #[.int .i64 x] 3)).grownBy w' v.ownBlock) : w'.cell? ⟨w.heap.size + 1 + 1, 5, none⟩ = some v ∧ w'.frozen? ⟨w.heap.size + 1 + 1, 5, none⟩ = false := by
  have hz := h.size
  have hob := ownsRow_block h.own
  have hb : w'.heap[w.heap.size + 1 + 1]? = wr.heap[w.heap.size + 1 + 1]? := by
    rw [hg.block _ (by rw [World.size_alloc]; omega) (fun e => by have := hob _ e.symm; omega)]
    exact Below.heap_alloc _ _ _ (by omega)
  exact ⟨(World.cell?_of_block (w := wr) (a := ⟨w.heap.size + 1 + 1, 5, none⟩) hb).trans h.mm.c5, (World.frozen?_of_block (w := wr) (a := ⟨w.heap.size + 1 + 1, 5, none⟩) hb).trans (h.fz _ 5 (by omega) (by omega))⟩
theorem RefM.start2 (w : World) (o : Out) (a : Option Addr) (n c : Nat) : RefM w (((w.alloc (.cells #[.int .i64 o.kind, .int .i64 o.born, .int .i64 o.stay, .int .i64 o.states, .int .i64 o.radius, .slice a n c, .string o.turns] 24)).alloc (.cells #[.int .i64 0, .int .i64 0, .int .i64 0, .int .i64 0, .int .i64 0, .slice none 0 0, .string ⟨#[]⟩] 24)).alloc (.cells #[.int .i64 o.kind, .int .i64 o.born, .int .i64 o.stay, .int .i64 o.states, .int .i64 o.radius, .slice none 0 0, .string o.turns] 24)) o a n c (.slice none 0 0) [] := by
  refine ⟨(((Below.refl _ _).alloc (Nat.le_refl _) _).alloc (by simp) _).alloc (by simp; omega) _, by simp, ?_, ?_, ?_, ?_, ⟨by simp, Or.inl ⟨rfl, by simp⟩⟩⟩
  · constructor <;> simp [go_sem]
  · constructor <;> simp [go_sem]
  · constructor <;> simp [go_sem]
  · intro b j h1 h2
    have h3 : b = w.heap.size ∨ b = w.heap.size + 1 ∨ b = w.heap.size + 1 + 1 := by omega
    rcases h3 with rfl | rfl | rfl <;> simp [go_sem]

set_option maxRecDepth 100000 in
set_option maxHeartbeats 3200000 in
theorem RefMirror_line (o : Out) (a : Option Addr) (n c s r : Nat) (w : World) (hR : ArgR w o a n c) (hk : o.kind = 2) (hs : o.states = (s : Int)) (hr : o.radius = (r : Int)) (hs2 : 2 ≤ s) (hs4 : s ≤ 4) (hr10 : r ≤ 10) (hn : n = s ^ (2 * r + 1)) (hn4 : n ≤ 4096) :
    Calls Tryd.prog 25 #[.agg #[.int .i64 o.kind, .int .i64 o.born, .int .i64 o.stay, .int .i64 (s : Int), .int .i64 (r : Int), .slice a n c, .string o.turns]] w fun e w' => (∃ v, e = .returned (.agg #[.int .i64 o.kind, .int .i64 o.born, .int .i64 o.stay, .int .i64 (s : Int), .int .i64 (r : Int), v, .string o.turns]) ∧ Tab w' v ((List.range n).map (mirT o))) ∧ Below w.heap.size w w' := by
  have k3 : (o.kind == 3) = false := by simp; omega
  have k2 : (o.kind == 2) = true := by simp; omega
  have S := RefM.start2 w o a n c
  rw [hs, hr] at S
  have HR := hide' hR
  have HS := hide' hs
  have HQ := hide' hr
  have HN := hide' hn
  have HL := hide' hR.len
  obtain ⟨i0, hi, hz0, hz1, hz2⟩ := info_parts info_int
  clear hk hR hs hr hn
  have S0 := hide' S
  clear S
  go_enter Tryd.func25, Tryd.ntmps25
  go_wp2
  go_loopw [6] (fun iv wr => ∃ (i : Nat) (v : Value), iv = .int .i64 (i : Int) ∧ i ≤ n ∧ RefM w wr o a n c v ((List.range i).map (mirT o))) (fun iv _ => n - (intOf iv).toNat)
  case atStart => exact ⟨0, .slice none 0 0, rfl, by omega, S0.out⟩
  case round =>
    obtain ⟨i, v, rfl, hi', hM⟩ := hrel
    have M := hide' hM
    have hz := hM.size
    have c2 := hM.arg.c0
    have c3 := hM.arg.c3
    have c4 := hM.arg.c4
    have c5 := hM.arg.c5
    rw [HS.out] at c3
    rw [HQ.out] at c4
    clear hM S0
    by_cases d : (i : Int) < (n : Int)
    · have W := Window_ref s (2 * r + 1) i wr hs2 hs4 (by omega) (by omega)
      rw [show ((2 * r + 1 : Nat) : Int) = 2 * (r : Int) + 1 by simp] at W
      have HW := hide' W
      clear W
      go_wp2_with fail
      refine HW.out.mono ?_
      rintro e w2 ⟨rfl, fd⟩
      have FD := hide' fd
      have M2 := hide' (M.out.next fd.below)
      have e3 := M2.out.arg.c3
      rw [HS.out] at e3
      clear fd
      go_wp2
      have F := hide' (show s ^ (2 * r + 1) ≤ 4096 by rw [← HN.out]; exact hn4)
      go_loopw [8, 9] (fun kv jv wx => ∃ q acc dd : Nat, jv = .int .i64 ((q : Int) - 1) ∧ kv = .int .i64 (acc : Int) ∧ q ≤ 2 * r + 1 ∧ acc ≤ 4096 ∧ wx = w2.drewN dd ∧ Hid (rv s q acc (i / s ^ (2 * r + 1 - q)) = rv s (2 * r + 1) 0 i ∧ acc < s ^ (2 * r + 1 - q))) (fun _ jv _ => (intOf jv + 1).toNat)
      case atStart => exact ⟨2 * r + 1, 0, 0, by simp, rfl, by omega, by omega, rfl, hide' (by simp)⟩
      case round =>
        obtain ⟨q, acc, dd, rfl, rfl, hq, hacc, rfl, HA⟩ := hrel
        by_cases d2 : (0 : Int) ≤ (q : Int) - 1
        · obtain ⟨p, rfl⟩ : ∃ p, q = p + 1 := ⟨q - 1, by omega⟩
          have e1 : ((p + 1 : Nat) : Int) - 1 = (p : Int) := by omega
          rw [e1]
          rw [e1] at d2
          obtain ⟨v1, hv1, hv2⟩ := FD.out.cells p (by omega)
          rw [hv2 (by omega)] at hv1
          have hpl : (p : Int) < 2 * (r : Int) + 1 := by omega
          have hpl2 : p < 2 * r + 1 := by omega
          obtain ⟨y, hy⟩ : ∃ y, y = winAt s (2 * r + 1) i p := ⟨_, rfl⟩
          rw [← hy] at hv1
          have hy4 : y < s := by rw [hy]; exact Nat.mod_lt _ (by omega)
          have HY := hide' hy
          clear e1 hv2 hy
          have q3 : (acc + 1) * s ≤ s ^ (2 * r + 1 - p) := by
            rw [show 2 * r + 1 - p = (2 * r + 1 - (p + 1)) + 1 by omega, Nat.pow_succ]; exact Nat.mul_le_mul_right _ HA.out.2
          have q4 : s ^ (2 * r + 1 - p) ≤ s ^ (2 * r + 1) := Nat.pow_le_pow_right (by omega) (by omega)
          have Q5 := hide' (show acc * s + y < s ^ (2 * r + 1 - p) by rw [Nat.add_mul, Nat.one_mul] at q3; omega)
          have Q6 := hide' (show acc * s + y ≤ 4096 by have := F.out; have := Q5.out; omega)
          clear q3 q4
          go_wp2
          go_quiet (fail)
          go_wp2
          rw [show ((acc : Int) * (s : Int)) = ((acc * s : Nat) : Int) by simp, wrapmul _ _ (by have := Q6.out; omega) (by omega)]
          refine ⟨⟨p, acc * s + y, dd + nq, rfl, rfl, by omega, Q6.out, rfl, hide' ⟨?_, Q5.out⟩⟩, by simp [intOf]⟩
          rw [← HA.out.1]
          show _ = rv s p (acc * s + i / s ^ (2 * r + 1 - (p + 1)) % s) (i / s ^ (2 * r + 1 - (p + 1)) / s)
          rw [Nat.div_div_eq_div_mul, ← Nat.pow_succ, show (2 * r + 1 - (p + 1)).succ = 2 * r + 1 - p by omega, HY.out]
          unfold winAt
          rw [show 2 * r + 1 - 1 - p = 2 * r + 1 - (p + 1) by omega]
        · have q0 : q = 0 := by omega
          have AC := hide' (show acc = rv s (2 * r + 1) 0 i by have h := HA.out.1; rw [q0] at h; exact h)
          have hlt : acc < n := by rw [AC.out, HN.out]; exact rv_lt s (by omega) _ _
          have M3 := hide' (M2.out.next (below_drewN (Below.refl w2.heap.size w2) dd))
          obtain ⟨wy, hwy⟩ : ∃ wy, wy = w2.drewN dd := ⟨_, rfl⟩
          rw [← hwy] at M3 ⊢
          clear hwy q0
          have hz3 := M3.out.size
          have ho := M3.out.own
          have d5 := M3.out.mm.c5
          have b5 := M3.out.arg.c5
          have y5 := M3.out.fz (w.heap.size + 1 + 1) 5 (by omega) (by omega)
          obtain ⟨sa, sn, sc, rfl⟩ := ownsRow_slice ho
          have hkl : acc < o.table.length := by have := HL.out; omega
          obtain ⟨g, off, rfl, hg, hc⟩ := (HR.out.below M3.out.below).cells acc hkl
          have HO := hide' ho
          have hai : (acc : Int) < (n : Int) := by omega
          have hll : ((List.range i).map (mirT o)).length = i := by simp
          have d6 : ∀ x, (wy.alloc x).cell? ⟨w.heap.size + 1 + 1, 5, none⟩ = some (.slice sa sn sc) := fun x => (World.cell?_alloc_lt wy x ⟨w.heap.size + 1 + 1, 5, none⟩ (by simp; omega)).trans d5
          clear ho e3 c2 c3 c4 c5
          go_wp2
          go_region_law (refine step_append_lies _ (by rfl) _ _ _ (by rfl) (w.heap.size + 3) 3 i0 _ 1 8 Tryd.underlying22 hi hz0 hz1 hz2 rfl (by omega) (.slice sa sn sc) _ _ (by rfl) ((HO.out.alloc _).drew) ⟨wy.heap.size, 0, none⟩ 1 1 [.int .i64 o.table[acc]] (by rfl) (by rfl) (World.news_of_block (cs := #[.int .i64 o.table[acc]]) (t := 3) (fr := (0, 0)) (heap_alloc_new wy _)) (by simp [Value.oneCell']) (by omega) (by unfold maxLen; simp; omega) (by simp; omega) (by simp; omega) (wy.heap.size + 1) (by simp) ?_; intro gg cap w5 hown1 hgrow hat hlt; have x5 := (M3.out.mid (grownBy_drew hgrow)).1; have x6 := (M3.out.mid (grownBy_drew hgrow)).2)
          all_goals
            go_wp2
            have hp := M3.out.push (grownBy_drew hgrow) hown1
            simp only [List.length_map, List.length_range] at hp
            refine ⟨⟨i + 1, .slice (some ⟨gg, 0, none⟩) (i + 1) cap, by go_num, by omega, ?_⟩, by simp [intOf]; omega⟩
            rw [List.range_succ, List.map_append]
            have em : mirT o i = o.table[acc] := by
              unfold mirT
              rw [HS.out, HQ.out]
              show o.table.getD (rv s (2 * r + 1) 0 i) 0 = _
              rw [← AC.out]
              simp [List.getD, hkl]
            show RefM _ _ _ _ _ _ _ ((List.range i).map (mirT o) ++ [mirT o i])
            rw [em]
            exact hp
    · have K := hide' (show i = n by omega)
      have x := M.out.mm
      rw [HS.out, HQ.out] at x
      have y := M.out.res
      have f := M.out.fz
      have HO := hide' M.out.own
      obtain ⟨sa, sn, sc, rfl⟩ := ownsRow_slice M.out.own
      obtain ⟨x0, x1, x2, x3, x4, x5, x6⟩ := x
      obtain ⟨y0, y1, y2, y3, y4, y5, y6⟩ := y
      have f0 := f (w.heap.size + 1) 0 (by omega) (by omega)
      have f1 := f (w.heap.size + 1) 1 (by omega) (by omega)
      have f2 := f (w.heap.size + 1) 2 (by omega) (by omega)
      have f3 := f (w.heap.size + 1) 3 (by omega) (by omega)
      have f4 := f (w.heap.size + 1) 4 (by omega) (by omega)
      have f5 := f (w.heap.size + 1) 5 (by omega) (by omega)
      have f6 := f (w.heap.size + 1) 6 (by omega) (by omega)
      clear f
      go_wp2
      refine bodyPost_ret (v := .agg #[.int .i64 o.kind, .int .i64 o.born, .int .i64 o.stay, .int .i64 (s : Int), .int .i64 (r : Int), .slice sa sn sc, .string o.turns]) (by simp [results, Tryd.results25, go_sem, y0, y1, y2, y3, y4, y5, y6]) rfl ?_
      refine ⟨⟨_, rfl, ?_⟩, setRule_below M.out.below (by simp) _ _ _ _ _ _ _⟩
      have ht := ownsRow_tab HO.out
      rw [K.out] at ht
      have hob := ownsRow_block HO.out
      exact ht.block (setRule_size wr (w.heap.size + 1) _ _ _ _ _ _ _) (fun g k c e => setRule_block wr (w.heap.size + 1) g _ _ _ _ _ _ _ (by have := hob g (by rw [e]; rfl); omega))
end Go.Proofs.YtljdidimoagnhaaDoor

