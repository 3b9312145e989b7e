/-
  What the last text of this claim leans on, part 11: Ref4, Ref5.
-/
import Derived.Test.YtjngjnkecnnmeaaDoorJp4
import Derived.Test.YtjngjnkecnnmeaaDoorJp5
import Derived.Test.YtjngjnkecnnmeaaDoorJp10
namespace Go.Proofs.YtjngjnkecnnmeaaDoor
open Go.RowKit
set_option linter.unusedVariables false

/-- edenref1.Parse in the midst of a table: its result's block, its rule's, its empty rule's; the table grows. -/
structure RefW (w wr : World) (k st ra : Int) (v : Value) (xs : List Int) : Prop where
  below : Below w.heap.size w wr
  size : w.heap.size + 3 ≤ wr.heap.size
  res : Seven wr w.heap.size (.int .i64 0) (.int .i64 0) (.int .i64 0) (.int .i64 0) (.int .i64 0) (.slice none 0 0) (.string ⟨#[]⟩)
  rr : Seven wr (w.heap.size + 1) (.int .i64 k) (.int .i64 0) (.int .i64 0) (.int .i64 st) (.int .i64 ra) v (.string ⟨#[]⟩)
  no : Seven wr (w.heap.size + 1 + 1) (.int .i64 0) (.int .i64 0) (.int .i64 0) (.int .i64 0) (.int .i64 0) (.slice none 0 0) (.string ⟨#[]⟩)
  fz : ∀ b j, w.heap.size ≤ b → b < w.heap.size + 3 → wr.frozen? ⟨b, j, none⟩ = false
  own : wr.ownsRow (w.heap.size + 3) 3 1 v xs.length (xs.map fun x => .int .i64 x)

theorem Seven.block {w w' : World} {g : Nat} {v0 v1 v2 v3 v4 v5 v6 : Value} (h : Seven w g v0 v1 v2 v3 v4 v5 v6) (e : w'.heap[g]? = w.heap[g]?) : Seven w' g v0 v1 v2 v3 v4 v5 v6 := by
  obtain ⟨c0, c1, c2, c3, c4, c5, c6⟩ := h
  exact ⟨(World.cell?_of_block (w := w) (a := ⟨g, 0, none⟩) e).trans c0, (World.cell?_of_block (w := w) (a := ⟨g, 1, none⟩) e).trans c1, (World.cell?_of_block (w := w) (a := ⟨g, 2, none⟩) e).trans c2, (World.cell?_of_block (w := w) (a := ⟨g, 3, none⟩) e).trans c3, (World.cell?_of_block (w := w) (a := ⟨g, 4, none⟩) e).trans c4, (World.cell?_of_block (w := w) (a := ⟨g, 5, none⟩) e).trans c5, (World.cell?_of_block (w := w) (a := ⟨g, 6, none⟩) e).trans c6⟩
theorem Seven.set5 {w : World} {g : Nat} {v0 v1 v2 v3 v4 v5 v6 : Value} (h : Seven w g v0 v1 v2 v3 v4 v5 v6) (u : Value) : Seven (w.setCell ⟨g, 5, none⟩ u) g v0 v1 v2 v3 v4 u v6 := by
  obtain ⟨c0, c1, c2, c3, c4, c5, c6⟩ := h
  constructor <;> simp [go_sem, c0, c1, c2, c3, c4, c5, c6]

theorem RefW.start (w : World) (k st ra : Int) : RefW w (((w.alloc (.cells zeroCells 24)).alloc (.cells #[.int .i64 k, .int .i64 0, .int .i64 0, .int .i64 st, .int .i64 ra, .slice none 0 0, .string ⟨#[]⟩] 24)).alloc (.cells zeroCells 24)) k st ra (.slice none 0 0) [] := by
  refine ⟨?_, by simp, ?_, ?_, ?_, ?_, ⟨by simp, Or.inl ⟨rfl, by simp⟩⟩⟩
  · exact (((Below.refl _ _).alloc (Nat.le_refl _) _).alloc (by simp) _).alloc (by simp; omega) _
  · constructor <;> simp [go_sem, zeroCells]
  · constructor <;> simp [go_sem]
  · constructor <;> simp [go_sem, zeroCells]
  · intro b j h1 h2
    have h3 : b = w.heap.size ∨ b = w.heap.size + 1 ∨ b = w.heap.size + 1 + 1 := by omega
    rcases h3 with rfl | rfl | rfl <;> simp [go_sem]

theorem RefW.push {w wr w' : World} {k st ra : Int} {v v' : Value} {xs : List Int} {x : Int} (h : RefW w wr k st ra v xs)
    (hg : (wr.alloc (.cells #[.int .i64 x] 3)).grownBy w' v.ownBlock) (ho : w'.ownsRow (w.heap.size + 3) 3 1 v' (xs.length + 1) ((xs.map fun x => .int .i64 x) ++ [.int .i64 x])) :
    RefW w (w'.setCell ⟨w.heap.size + 1, 5, none⟩ v') k st ra v' (xs ++ [x]) := by
  have hz := h.size
  have hob := ownsRow_block h.own
  have hb : ∀ b, b < w.heap.size + 3 → w'.heap[b]? = wr.heap[b]? := fun b hb => by
    rw [hg.block b (by rw [World.size_alloc]; omega) (fun e => by have := hob b e.symm; omega)]
    exact Below.heap_alloc _ _ _ (by omega)
  have hsz : wr.heap.size + 1 ≤ w'.heap.size := by have := hg.size; rw [World.size_alloc] at this; exact this
  have B1 : Below w.heap.size w w' := (h.below.alloc (by omega) _).trans ⟨hg.os, hg.tape, hg.output, hg.size, fun b hbb => hg.block b (by rw [World.size_alloc]; omega) (fun e => by have := hob b e.symm; omega)⟩
  refine ⟨B1.setCell (by simp) _, by rw [World.size_setCell]; omega, ?_, ?_, ?_, ?_, ?_⟩
  · exact (h.res.block (hb _ (by omega))).other (by simp) _
  · exact (h.rr.block (hb _ (by omega))).set5 _
  · exact (h.no.block (hb _ (by omega))).other (by simp) _
  · intro b j h1 h2
    rw [World.frozen?_setCell, World.frozen?_of_block (w := wr) (a := ⟨b, j, none⟩) (hb b h2)]
    exact h.fz b j h1 h2
  · have := ownsRow_setCell_below ho (a := ⟨w.heap.size + 1, 5, none⟩) (by simp) v'
    simpa using this

set_option maxRecDepth 100000 in
set_option maxHeartbeats 1600000 in
theorem ref_W1 (s : ByteArray) (w : World) (hs : s.size ≤ maxLen) (h0 : 0 < s.size) (hk : bt s 0 = 87) (hn : numOk s 1 0 255 = false) :
    Calls Tryd.prog 13 #[.string s] w fun e w' => RefParsed (.inr 1) w e w' := by
  have hne := not_empty h0
  have e0 := bt_lt s 0 h0
  have k0 : ((s[0].toNat : Int) == 66) = false := by simp; omega
  have k1 : ((s[0].toNat : Int) == 87) = true := by simp; omega
  clear e0
  go_enter Tryd.func13, Tryd.ntmps13
  go_wp2_with fail
  refine (Number_any s 1 1 _ rfl hs (by omega)).mono ?_
  rintro e w1 ⟨N, rfl, hN, rfl⟩
  have h1 := hN.lo
  have h2 := hN.hi
  rcases hN.no 0 255 (by omega) hn with q | q
  · have q' : N < 0 := by omega
    clear hN q
    go_wp2
    refine bodyPost_ret (v := .tuple #[.agg zeroCells, .int .i64 1, .bool false]) (by simp [results, Tryd.results13, go_sem, zeroCells]) rfl ?_
    refine RefParsed.bad ?_
    repeat (first | refine Below.setCell ?_ (by simp <;> omega) _ | refine Below.alloc ?_ (by simp <;> omega) _ | exact Below.refl _ _)
  · have q' : 255 < N := by omega
    have q2 : ¬ N < 0 := by omega
    clear hN q
    go_wp2
    refine bodyPost_ret (v := .tuple #[.agg zeroCells, .int .i64 1, .bool false]) (by simp [results, Tryd.results13, go_sem, zeroCells]) rfl ?_
    refine RefParsed.bad ?_
    repeat (first | refine Below.setCell ?_ (by simp <;> omega) _ | refine Below.alloc ?_ (by simp <;> omega) _ | exact Below.refl _ _)
end Go.Proofs.YtjngjnkecnnmeaaDoor

namespace Go.Proofs.YtjngjnkecnnmeaaDoor
open Go.RowKit
set_option linter.unusedVariables false

theorem bitOf_eq (n j q : Nat) (h : q = n / 2 ^ j) : ((q : Int) % 2) = bitOf n j := by
  unfold bitOf; rw [← h]; simp

theorem RefW.mid {w wr w' : World} {k st ra x : Int} {v : Value} {xs : List Int} (h : RefW w wr k st ra v xs)
    (hg : (wr.alloc (.cells #[.int .i64 x] 3)).grownBy w' v.ownBlock) : w'.cell? ⟨w.heap.size + 1, 5, none⟩ = some v ∧ w'.frozen? ⟨w.heap.size + 1, 5, none⟩ = false := by
  have hz := h.size
  have hob := ownsRow_block h.own
  have hb : w'.heap[w.heap.size + 1]? = wr.heap[w.heap.size + 1]? := by
    rw [hg.block _ (by rw [World.size_alloc]; omega) (fun e => by have := hob _ e.symm; omega)]
    exact Below.heap_alloc _ _ _ (by omega)
  exact ⟨(World.cell?_of_block (w := wr) (a := ⟨w.heap.size + 1, 5, none⟩) hb).trans h.rr.c5, (World.frozen?_of_block (w := wr) (a := ⟨w.heap.size + 1, 5, none⟩) hb).trans (h.fz _ 5 (by omega) (by omega))⟩

set_option maxRecDepth 100000 in
set_option maxHeartbeats 4000000 in
theorem ref_W2 (s : ByteArray) (w : World) (hs : s.size ≤ maxLen) (h0 : 0 < s.size) (hk : bt s 0 = 87) (hn : numOk s 1 0 255 = true) (hlt : (num s 1).2 < s.size) :
    Calls Tryd.prog 13 #[.string s] w fun e w' => RefParsed (.inr (num s 1).2) w e w' := by
  have hne := not_empty h0
  have e0 := bt_lt s 0 h0
  have k0 : ((s[0].toNat : Int) == 66) = false := by simp; omega
  have k1 : ((s[0].toNat : Int) == 87) = true := by simp; omega
  clear e0
  obtain ⟨i0, hi, hz0, hz1, hz2⟩ := info_parts info_int
  have hs' := hs
  unfold maxLen at hs'
  obtain ⟨K, hK⟩ : ∃ K, (num s 1).2 = K := ⟨_, rfl⟩
  rw [hK] at hlt ⊢
  have HK := hide' hK
  clear hK
  have g5 : (K : Int) < (s.size : Int) := by omega
  go_enter Tryd.func13, Tryd.ntmps13
  go_wp2_with fail
  refine (Number_any s 1 1 _ rfl hs (by omega)).mono ?_
  rw [HK.out]
  rintro e w1 ⟨N, rfl, hN, rfl⟩
  obtain ⟨h1, h2, h3⟩ := hN.ok 0 255 (by omega) hn
  obtain ⟨n, hn'⟩ : ∃ n, n = (num s 1).1 := ⟨_, rfl⟩
  rw [← hn'] at h1
  subst h1
  have hn2 : n ≤ 255 := by omega
  have a1 : ¬ (n : Int) < 0 := by omega
  have a2 : ¬ 255 < (n : Int) := by omega
  clear hN h2 h3 hn'
  have S := hide' (RefW.start w 2 2 1)
  go_wp2
  go_loopw [11, 13] (fun nv jv wr => ∃ (j q : Nat) (v : Value), jv = .int .i64 (j : Int) ∧ nv = .int .i64 (q : Int) ∧ j ≤ 8 ∧ q ≤ 255 ∧ q = n / 2 ^ j ∧ RefW w wr 2 2 1 v ((List.range j).map (bitOf n))) (fun _ jv _ => 8 - (intOf jv).toNat)
  case atStart => exact ⟨0, n, .slice none 0 0, rfl, rfl, by omega, hn2, by simp, S.out⟩
  case round =>
    obtain ⟨j, q, v, rfl, rfl, hj, hq, hqe, hR⟩ := hrel
    have HQ := hide' hqe
    have HR := hide' hR
    have hz := hR.size
    have ho := hR.own
    have d5 := hR.rr.c5
    have hf := hR.fz
    have y5 := hR.fz (w.heap.size + 1) 5 (by omega) (by omega)
    obtain ⟨sa, sn, sc, rfl⟩ := ownsRow_slice ho
    clear hqe hR hf S
    by_cases c : (j : Int) < 8
    · have HO := hide' ho
      clear ho
      go_wp2_with (at_builtin; refine wpList_append_own _ rfl _ _ 22 rfl (w.heap.size + 3) 3 i0 (.int .i64 0) 1 8 Tryd.underlying22 hi hz0 hz1 hz2 rfl (by decide) (.slice sa sn sc) _ _ rfl (HO.out.alloc _) ⟨wr.heap.size, 0, none⟩ 1 1 [.int .i64 ((q : Int) % 2)] rfl rfl (cell_one_new _ _ _) (fun x hx => by simp at hx; subst hx; rfl) (by unfold maxLen; simp; omega) (by simp; omega) (by simp; omega) ?_; intro v' w3 hown' hgrow3 hnil3; obtain ⟨ta, tn, tc, rfl⟩ := ownsRow_slice hown'; obtain ⟨x5, x6⟩ := HR.out.mid hgrow3; have G3 := hide' hgrow3; have O3 := hide' hown'; clear hgrow3 hown' hnil3)
      refine ⟨⟨j + 1, q / 2, .slice ta tn tc, by go_num, by go_num, by omega, by omega, ?_, ?_⟩, by simp [intOf]; omega⟩
      · rw [HQ.out, Nat.pow_succ, Nat.div_div_eq_div_mul]
      · have hp := HR.out.push G3.out O3.out
        rw [bitOf_eq n j q HQ.out] at hp
        rw [List.range_succ, List.map_append]
        exact hp
    · have R := HR.out
      obtain ⟨n0, n1, n2, n3, n4, n5, n6⟩ := R.no
      obtain ⟨r0, r1, r2, r3, r4, r5, r6⟩ := R.rr
      obtain ⟨t0, t1, t2, t3, t4, t5, t6⟩ := R.res
      have yf : ∀ j, wr.frozen? ⟨w.heap.size, j, none⟩ = false := fun j => R.fz _ j (by omega) (by omega)
      have JJ := hide' (show j = 8 by omega)
      clear R ho
      go_wp2
      refine bodyPost_ret (v := .tuple #[.agg zeroCells, .int .i64 (K : Int), .bool false]) (by simp [results, Tryd.results13, go_sem, zeroCells, t0, t1, t2, t3, t4, t5, t6]) rfl ?_
      refine RefParsed.bad ?_
      exact setRule_below HR.out.below (Nat.le_refl _) (.int .i64 0) (.int .i64 0) (.int .i64 0) (.int .i64 0) (.int .i64 0) (.slice none 0 0) (.string ⟨#[]⟩)

set_option maxRecDepth 100000 in
set_option maxHeartbeats 4000000 in
theorem ref_W3 (s : ByteArray) (w : World) (hs : s.size ≤ maxLen) (h0 : 0 < s.size) (hk : bt s 0 = 87) (hn : numOk s 1 0 255 = true) (hlt : ¬ (num s 1).2 < s.size) :
    Calls Tryd.prog 13 #[.string s] w fun e w' => RefParsed (.inl ⟨2, 0, 0, 2, 1, (List.range 8).map (bitOf (num s 1).1), ⟨#[]⟩⟩) w e w' := by
  have hne := not_empty h0
  have e0 := bt_lt s 0 h0
  have k0 : ((s[0].toNat : Int) == 66) = false := by simp; omega
  have k1 : ((s[0].toNat : Int) == 87) = true := by simp; omega
  clear e0
  obtain ⟨i0, hi, hz0, hz1, hz2⟩ := info_parts info_int
  have hs' := hs
  unfold maxLen at hs'
  obtain ⟨K, hK⟩ : ∃ K, (num s 1).2 = K := ⟨_, rfl⟩
  rw [hK] at hlt
  have HK := hide' hK
  clear hK
  have g5 : ¬ (K : Int) < (s.size : Int) := by omega
  go_enter Tryd.func13, Tryd.ntmps13
  go_wp2_with fail
  refine (Number_any s 1 1 _ rfl hs (by omega)).mono ?_
  rw [HK.out]
  rintro e w1 ⟨N, rfl, hN, rfl⟩
  obtain ⟨h1, h2, h3⟩ := hN.ok 0 255 (by omega) hn
  obtain ⟨n, hn'⟩ : ∃ n, n = (num s 1).1 := ⟨_, rfl⟩
  rw [← hn'] at h1
  subst h1
  have hn2 : n ≤ 255 := by omega
  have a1 : ¬ (n : Int) < 0 := by omega
  have a2 : ¬ 255 < (n : Int) := by omega
  have HV := hide' hn'.symm
  clear hN h2 h3 hn'
  have S := hide' (RefW.start w 2 2 1)
  go_wp2
  go_loopw [11, 13] (fun nv jv wr => ∃ (j q : Nat) (v : Value), jv = .int .i64 (j : Int) ∧ nv = .int .i64 (q : Int) ∧ j ≤ 8 ∧ q ≤ 255 ∧ q = n / 2 ^ j ∧ RefW w wr 2 2 1 v ((List.range j).map (bitOf n))) (fun _ jv _ => 8 - (intOf jv).toNat)
  case atStart => exact ⟨0, n, .slice none 0 0, rfl, rfl, by omega, hn2, by simp, S.out⟩
  case round =>
    obtain ⟨j, q, v, rfl, rfl, hj, hq, hqe, hR⟩ := hrel
    have HQ := hide' hqe
    have HR := hide' hR
    have hz := hR.size
    have ho := hR.own
    have d5 := hR.rr.c5
    have hf := hR.fz
    have y5 := hR.fz (w.heap.size + 1) 5 (by omega) (by omega)
    obtain ⟨sa, sn, sc, rfl⟩ := ownsRow_slice ho
    clear hqe hR hf S
    by_cases c : (j : Int) < 8
    · have HO := hide' ho
      clear ho
      go_wp2_with (at_builtin; refine wpList_append_own _ rfl _ _ 22 rfl (w.heap.size + 3) 3 i0 (.int .i64 0) 1 8 Tryd.underlying22 hi hz0 hz1 hz2 rfl (by decide) (.slice sa sn sc) _ _ rfl (HO.out.alloc _) ⟨wr.heap.size, 0, none⟩ 1 1 [.int .i64 ((q : Int) % 2)] rfl rfl (cell_one_new _ _ _) (fun x hx => by simp at hx; subst hx; rfl) (by unfold maxLen; simp; omega) (by simp; omega) (by simp; omega) ?_; intro v' w3 hown' hgrow3 hnil3; obtain ⟨ta, tn, tc, rfl⟩ := ownsRow_slice hown'; obtain ⟨x5, x6⟩ := HR.out.mid hgrow3; have G3 := hide' hgrow3; have O3 := hide' hown'; clear hgrow3 hown' hnil3)
      refine ⟨⟨j + 1, q / 2, .slice ta tn tc, by go_num, by go_num, by omega, by omega, ?_, ?_⟩, by simp [intOf]; omega⟩
      · rw [HQ.out, Nat.pow_succ, Nat.div_div_eq_div_mul]
      · have hp := HR.out.push G3.out O3.out
        rw [bitOf_eq n j q HQ.out] at hp
        rw [List.range_succ, List.map_append]
        exact hp
    · have R := HR.out
      obtain ⟨n0, n1, n2, n3, n4, n5, n6⟩ := R.no
      obtain ⟨r0, r1, r2, r3, r4, r5, r6⟩ := R.rr
      obtain ⟨t0, t1, t2, t3, t4, t5, t6⟩ := R.res
      have yf : ∀ j, wr.frozen? ⟨w.heap.size, j, none⟩ = false := fun j => R.fz _ j (by omega) (by omega)
      have JJ := hide' (show j = 8 by omega)
      clear R ho
      go_wp2
      refine bodyPost_ret (v := .tuple #[Out.val ⟨2, 0, 0, 2, 1, (List.range 8).map (bitOf n), ⟨#[]⟩⟩ (.slice sa sn sc), .int .i64 0, .bool true]) (by simp [results, Tryd.results13, go_sem, Out.val, t0, t1, t2, t3, t4, t5, t6]) rfl ?_
      rw [HV.out]
      have B := setRule_below HR.out.below (Nat.le_refl _) (.int .i64 2) (.int .i64 0) (.int .i64 0) (.int .i64 2) (.int .i64 1) (.slice sa sn sc) (.string ⟨#[]⟩)
      have T := ownsRow_tab HR.out.own
      rw [JJ.out] at T
      refine ⟨_, rfl, T.block (setRule_size wr w.heap.size (.int .i64 2) (.int .i64 0) (.int .i64 0) (.int .i64 2) (.int .i64 1) (.slice sa sn sc) (.string ⟨#[]⟩)) (fun g k c q => setRule_block wr w.heap.size g (.int .i64 2) (.int .i64 0) (.int .i64 0) (.int .i64 2) (.int .i64 1) (.slice sa sn sc) (.string ⟨#[]⟩) ?_), B⟩
      have := ownsRow_block HR.out.own g (by rw [q]; rfl)
      omega
end Go.Proofs.YtjngjnkecnnmeaaDoor

