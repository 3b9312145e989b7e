/-
  The document's answer to any text of a rule (edenref1.Parse): W with its table.
-/
import Derived.Test.YtpbcgojfpmpgpaaDoorRef4
namespace Go.Proofs.YtpbcgojfpmpgpaaDoor
open Go.RowKit
set_option linter.unusedVariables false

theorem bitOf_eq (n j q : Nat) (h : q = n / 2 ^ j) : ((q : Int) % 2) = bitOf n j := by
  unfold bitOf; rw [← h]; simp

theorem RefW.mid {w wr w' : World} {k st ra x : Int} {v : Value} {xs : List Int} (h : RefW w wr k st ra v xs)
    (hg : (wr.alloc (.cells #[.int .i64 x] 3)).grownBy w' v.ownBlock) : w'.cell? ⟨w.heap.size + 1, 5, none⟩ = some v ∧ w'.frozen? ⟨w.heap.size + 1, 5, none⟩ = false := by
  have hz := h.size
  have hob := ownsRow_block h.own
  have hb : w'.heap[w.heap.size + 1]? = wr.heap[w.heap.size + 1]? := by
    rw [hg.block _ (by rw [World.size_alloc]; omega) (fun e => by have := hob _ e.symm; omega)]
    exact Below.heap_alloc _ _ _ (by omega)
  exact ⟨(World.cell?_of_block (w := wr) (a := ⟨w.heap.size + 1, 5, none⟩) hb).trans h.rr.c5, (World.frozen?_of_block (w := wr) (a := ⟨w.heap.size + 1, 5, none⟩) hb).trans (h.fz _ 5 (by omega) (by omega))⟩

set_option maxRecDepth 100000 in
set_option maxHeartbeats 4000000 in
theorem ref_W2 (s : ByteArray) (w : World) (hs : s.size ≤ maxLen) (h0 : 0 < s.size) (hk : bt s 0 = 87) (hn : numOk s 1 0 255 = true) (hlt : (num s 1).2 < s.size) :
    Calls Tryd.prog 9 #[.string s] w fun e w' => RefParsed (.inr (num s 1).2) w e w' := by
  have hne := not_empty h0
  have e0 := bt_lt s 0 h0
  have k0 : ((s[0].toNat : Int) == 66) = false := by simp; omega
  have k1 : ((s[0].toNat : Int) == 87) = true := by simp; omega
  clear e0
  obtain ⟨i0, hi, hz0, hz1, hz2⟩ := info_parts info_int
  have hs' := hs
  unfold maxLen at hs'
  obtain ⟨K, hK⟩ : ∃ K, (num s 1).2 = K := ⟨_, rfl⟩
  rw [hK] at hlt ⊢
  have HK := hide' hK
  clear hK
  have g5 : (K : Int) < (s.size : Int) := by omega
  go_enter Tryd.func9, Tryd.ntmps9
  go_wp2_with fail
  refine (Number_any s 1 1 _ rfl hs (by omega)).mono ?_
  rw [HK.out]
  rintro e w1 ⟨N, rfl, hN, rfl⟩
  obtain ⟨h1, h2, h3⟩ := hN.ok 0 255 (by omega) hn
  obtain ⟨n, hn'⟩ : ∃ n, n = (num s 1).1 := ⟨_, rfl⟩
  rw [← hn'] at h1
  subst h1
  have hn2 : n ≤ 255 := by omega
  have a1 : ¬ (n : Int) < 0 := by omega
  have a2 : ¬ 255 < (n : Int) := by omega
  clear hN h2 h3 hn'
  have S := hide' (RefW.start w 2 2 1)
  go_wp2
  go_loopw [11, 13] (fun nv jv wr => ∃ (j q : Nat) (v : Value), jv = .int .i64 (j : Int) ∧ nv = .int .i64 (q : Int) ∧ j ≤ 8 ∧ q ≤ 255 ∧ q = n / 2 ^ j ∧ RefW w wr 2 2 1 v ((List.range j).map (bitOf n))) (fun _ jv _ => 8 - (intOf jv).toNat)
  case atStart => exact ⟨0, n, .slice none 0 0, rfl, rfl, by omega, hn2, by simp, S.out⟩
  case round =>
    obtain ⟨j, q, v, rfl, rfl, hj, hq, hqe, hR⟩ := hrel
    have HQ := hide' hqe
    have HR := hide' hR
    have hz := hR.size
    have ho := hR.own
    have d5 := hR.rr.c5
    have hf := hR.fz
    have y5 := hR.fz (w.heap.size + 1) 5 (by omega) (by omega)
    obtain ⟨sa, sn, sc, rfl⟩ := ownsRow_slice ho
    clear hqe hR hf S
    by_cases c : (j : Int) < 8
    · have HO := hide' ho
      clear ho
      go_wp2_with (at_builtin; refine wpList_append_own _ rfl _ _ 22 rfl (w.heap.size + 3) 3 i0 (.int .i64 0) 1 8 Tryd.underlying22 hi hz0 hz1 hz2 rfl (by decide) (.slice sa sn sc) _ _ rfl (HO.out.alloc _) ⟨wr.heap.size, 0, none⟩ 1 1 [.int .i64 ((q : Int) % 2)] rfl rfl (cell_one_new _ _ _) (fun x hx => by simp at hx; subst hx; rfl) (by unfold maxLen; simp; omega) (by simp; omega) (by simp; omega) ?_; intro v' w3 hown' hgrow3 hnil3; obtain ⟨ta, tn, tc, rfl⟩ := ownsRow_slice hown'; obtain ⟨x5, x6⟩ := HR.out.mid hgrow3; have G3 := hide' hgrow3; have O3 := hide' hown'; clear hgrow3 hown' hnil3)
      refine ⟨⟨j + 1, q / 2, .slice ta tn tc, by go_num, by go_num, by omega, by omega, ?_, ?_⟩, by simp [intOf]; omega⟩
      · rw [HQ.out, Nat.pow_succ, Nat.div_div_eq_div_mul]
      · have hp := HR.out.push G3.out O3.out
        rw [bitOf_eq n j q HQ.out] at hp
        rw [List.range_succ, List.map_append]
        exact hp
    · have R := HR.out
      obtain ⟨n0, n1, n2, n3, n4, n5, n6⟩ := R.no
      obtain ⟨r0, r1, r2, r3, r4, r5, r6⟩ := R.rr
      obtain ⟨t0, t1, t2, t3, t4, t5, t6⟩ := R.res
      have yf : ∀ j, wr.frozen? ⟨w.heap.size, j, none⟩ = false := fun j => R.fz _ j (by omega) (by omega)
      have JJ := hide' (show j = 8 by omega)
      clear R ho
      go_wp2
      refine bodyPost_ret (v := .tuple #[.agg zeroCells, .int .i64 (K : Int), .bool false]) (by simp [results, Tryd.results9, go_sem, zeroCells, t0, t1, t2, t3, t4, t5, t6]) rfl ?_
      refine RefParsed.bad ?_
      exact setRule_below HR.out.below (Nat.le_refl _) (.int .i64 0) (.int .i64 0) (.int .i64 0) (.int .i64 0) (.int .i64 0) (.slice none 0 0) (.string ⟨#[]⟩)

set_option maxRecDepth 100000 in
set_option maxHeartbeats 4000000 in
theorem ref_W3 (s : ByteArray) (w : World) (hs : s.size ≤ maxLen) (h0 : 0 < s.size) (hk : bt s 0 = 87) (hn : numOk s 1 0 255 = true) (hlt : ¬ (num s 1).2 < s.size) :
    Calls Tryd.prog 9 #[.string s] w fun e w' => RefParsed (.inl ⟨2, 0, 0, 2, 1, (List.range 8).map (bitOf (num s 1).1), ⟨#[]⟩⟩) w e w' := by
  have hne := not_empty h0
  have e0 := bt_lt s 0 h0
  have k0 : ((s[0].toNat : Int) == 66) = false := by simp; omega
  have k1 : ((s[0].toNat : Int) == 87) = true := by simp; omega
  clear e0
  obtain ⟨i0, hi, hz0, hz1, hz2⟩ := info_parts info_int
  have hs' := hs
  unfold maxLen at hs'
  obtain ⟨K, hK⟩ : ∃ K, (num s 1).2 = K := ⟨_, rfl⟩
  rw [hK] at hlt
  have HK := hide' hK
  clear hK
  have g5 : ¬ (K : Int) < (s.size : Int) := by omega
  go_enter Tryd.func9, Tryd.ntmps9
  go_wp2_with fail
  refine (Number_any s 1 1 _ rfl hs (by omega)).mono ?_
  rw [HK.out]
  rintro e w1 ⟨N, rfl, hN, rfl⟩
  obtain ⟨h1, h2, h3⟩ := hN.ok 0 255 (by omega) hn
  obtain ⟨n, hn'⟩ : ∃ n, n = (num s 1).1 := ⟨_, rfl⟩
  rw [← hn'] at h1
  subst h1
  have hn2 : n ≤ 255 := by omega
  have a1 : ¬ (n : Int) < 0 := by omega
  have a2 : ¬ 255 < (n : Int) := by omega
  have HV := hide' hn'.symm
  clear hN h2 h3 hn'
  have S := hide' (RefW.start w 2 2 1)
  go_wp2
  go_loopw [11, 13] (fun nv jv wr => ∃ (j q : Nat) (v : Value), jv = .int .i64 (j : Int) ∧ nv = .int .i64 (q : Int) ∧ j ≤ 8 ∧ q ≤ 255 ∧ q = n / 2 ^ j ∧ RefW w wr 2 2 1 v ((List.range j).map (bitOf n))) (fun _ jv _ => 8 - (intOf jv).toNat)
  case atStart => exact ⟨0, n, .slice none 0 0, rfl, rfl, by omega, hn2, by simp, S.out⟩
  case round =>
    obtain ⟨j, q, v, rfl, rfl, hj, hq, hqe, hR⟩ := hrel
    have HQ := hide' hqe
    have HR := hide' hR
    have hz := hR.size
    have ho := hR.own
    have d5 := hR.rr.c5
    have hf := hR.fz
    have y5 := hR.fz (w.heap.size + 1) 5 (by omega) (by omega)
    obtain ⟨sa, sn, sc, rfl⟩ := ownsRow_slice ho
    clear hqe hR hf S
    by_cases c : (j : Int) < 8
    · have HO := hide' ho
      clear ho
      go_wp2_with (at_builtin; refine wpList_append_own _ rfl _ _ 22 rfl (w.heap.size + 3) 3 i0 (.int .i64 0) 1 8 Tryd.underlying22 hi hz0 hz1 hz2 rfl (by decide) (.slice sa sn sc) _ _ rfl (HO.out.alloc _) ⟨wr.heap.size, 0, none⟩ 1 1 [.int .i64 ((q : Int) % 2)] rfl rfl (cell_one_new _ _ _) (fun x hx => by simp at hx; subst hx; rfl) (by unfold maxLen; simp; omega) (by simp; omega) (by simp; omega) ?_; intro v' w3 hown' hgrow3 hnil3; obtain ⟨ta, tn, tc, rfl⟩ := ownsRow_slice hown'; obtain ⟨x5, x6⟩ := HR.out.mid hgrow3; have G3 := hide' hgrow3; have O3 := hide' hown'; clear hgrow3 hown' hnil3)
      refine ⟨⟨j + 1, q / 2, .slice ta tn tc, by go_num, by go_num, by omega, by omega, ?_, ?_⟩, by simp [intOf]; omega⟩
      · rw [HQ.out, Nat.pow_succ, Nat.div_div_eq_div_mul]
      · have hp := HR.out.push G3.out O3.out
        rw [bitOf_eq n j q HQ.out] at hp
        rw [List.range_succ, List.map_append]
        exact hp
    · have R := HR.out
      obtain ⟨n0, n1, n2, n3, n4, n5, n6⟩ := R.no
      obtain ⟨r0, r1, r2, r3, r4, r5, r6⟩ := R.rr
      obtain ⟨t0, t1, t2, t3, t4, t5, t6⟩ := R.res
      have yf : ∀ j, wr.frozen? ⟨w.heap.size, j, none⟩ = false := fun j => R.fz _ j (by omega) (by omega)
      have JJ := hide' (show j = 8 by omega)
      clear R ho
      go_wp2
      refine bodyPost_ret (v := .tuple #[Out.val ⟨2, 0, 0, 2, 1, (List.range 8).map (bitOf n), ⟨#[]⟩⟩ (.slice sa sn sc), .int .i64 0, .bool true]) (by simp [results, Tryd.results9, go_sem, Out.val, t0, t1, t2, t3, t4, t5, t6]) rfl ?_
      rw [HV.out]
      have B := setRule_below HR.out.below (Nat.le_refl _) (.int .i64 2) (.int .i64 0) (.int .i64 0) (.int .i64 2) (.int .i64 1) (.slice sa sn sc) (.string ⟨#[]⟩)
      have T := ownsRow_tab HR.out.own
      rw [JJ.out] at T
      refine ⟨_, rfl, T.block (setRule_size wr w.heap.size (.int .i64 2) (.int .i64 0) (.int .i64 0) (.int .i64 2) (.int .i64 1) (.slice sa sn sc) (.string ⟨#[]⟩)) (fun g k c q => setRule_block wr w.heap.size g (.int .i64 2) (.int .i64 0) (.int .i64 0) (.int .i64 2) (.int .i64 1) (.slice sa sn sc) (.string ⟨#[]⟩) ?_), B⟩
      have := ownsRow_block HR.out.own g (by rw [q]; rfl)
      omega
end Go.Proofs.YtpbcgojfpmpgpaaDoor
