/-
  What the last text of this claim leans on, part 17: Ck6.
-/
import Derived.Test.YtcfoeadfhkojeaaGreatDoorZm16
import Derived.Deep.CutRange
namespace Go.Proofs.YtcfoeadfhkojeaaGreatDoor
open Go.RowKit
set_option linter.unusedVariables false
/-- What readLine answers. -/
def insA (x : InsT) : Value := .agg #[.int .i64 x.1, .int .i64 x.2.1, .int .i64 x.2.2.1, .int .i64 x.2.2.2]
def RlOut (r : Option InsT) (w : World) (e : Ending) (w' : World) : Prop := ((∃ x, r = some x ∧ e = .returned (.tuple #[insA x, .nilIface])) ∨ (r = none ∧ e = .returned (.tuple #[insA (0, 0, 0, 0), errOf 2]))) ∧ Below w.heap.size w w'
def nuA (f : Nat → List UInt8) (k j : Nat) : Int := if j < k then vlC (f (j + 1)) else 0
def nuR (f : Nat → List UInt8) (k : Nat) : Array Value := #[.int .i64 (nuA f k 0), .int .i64 (nuA f k 1), .int .i64 (nuA f k 2)]
theorem nuR_next (f : Nat → List UInt8) (k : Nat) (hk : k < 3) : (nuR f k).setIfInBounds k (.int .i64 (vlC (f (k + 1)))) = nuR f (k + 1) := by
  rcases (show k = 0 ∨ k = 1 ∨ k = 2 by omega) with rfl | rfl | rfl <;> simp [nuR, nuA]
theorem line_zero {l : List UInt8} {f0 : List UInt8} (hp : spN 4 l = [f0]) (ho : opW f0 = 3) : lineC l = some (3, 0, 0, 0) := by
  unfold lineC
  rw [hp]
  simp only [List.getD_cons_zero, ho]
  rw [if_neg (by simp [usN]), if_pos (by rfl)]
  rfl
theorem line_two {l : List UInt8} {f0 f1 f2 : List UInt8} (hp : spN 4 l = [f0, f1, f2]) (ho : opW f0 = 1) : lineC l = if (numB f1 && numB f2) = true then some (1, vlC f1, vlC f2, 0) else none := by
  unfold lineC
  rw [hp]
  simp only [List.getD_cons_zero, ho]
  rw [if_neg (by simp [usN])]
  simp [allN]
theorem line_three {l : List UInt8} {f0 f1 f2 f3 : List UInt8} (hp : spN 4 l = [f0, f1, f2, f3]) (ho : opW f0 = 2) : lineC l = if (numB f1 && numB f2 && numB f3) = true then some (2, vlC f1, vlC f2, vlC f3) else none := by
  unfold lineC
  rw [hp]
  simp only [List.getD_cons_zero, ho]
  rw [if_neg (by simp [usN])]
  simp [allN, and_assoc]
theorem readNumber_ok' (l : List UInt8) (w : World) (h : numB l = true) : Calls Tryz.prog 49 #[.string ⟨l.toArray⟩] w fun e w' => e = .returned (.tuple #[.int .i64 (vlC l), .nilIface]) ∧ w' = w := readNumber_ok l w (numB_iff.1 h)
theorem readNumber_no' (l : List UInt8) (w : World) (h : numB l = false) : Calls Tryz.prog 49 #[.string ⟨l.toArray⟩] w fun e w' => e = .returned (.tuple #[.int .i64 0, .iface 73 (.int .i64 2)]) ∧ w' = w := by
  have := readNumber_no l w (fun q => by rw [numB_iff.2 q] at h; cases h)
  rw [errOf_is (f := 2) (by omega)] at this
  exact this
set_option maxRecDepth 100000 in
set_option maxHeartbeats 6400000 in
theorem readLine_inc (l : List UInt8) (w : World) (hl : l.length ≤ 1048576) (hU : UsT w) (hW : WoT w) (ho : opW ((spN 4 l).getD 0 []) = 1) (hn : (spN 4 l).length = 3) :
    Calls Tryz.prog 38 #[.string ⟨l.toArray⟩] w (RlOut (lineC l) w) := by
  have E := hide' (errOf_is (f := 2) (by omega))
  have SN := hide' (fun V => splitN_any l V hl)
  obtain ⟨ps, hp⟩ : ∃ ps, spN 4 l = ps := ⟨_, rfl⟩
  have HPS := hide' hp
  rw [hp] at SN hn ho
  have HU := hide' (fun (V : World) (h : Below w.heap.size w V) => hU.below h)
  have HW := hide' (fun (V : World) (h : Below w.heap.size w V) => hW.below h)
  have HO := hide' ho
  have HN := hide' hn
  clear hp hU hW ho hn
  go_enter Tryz.func38, Tryz.ntmps38
  go_wp2_with fail
  refine (SN.out _).mono ?_
  rintro e w1 ⟨g, q, f, rfl, hq, hS, hps, hg, hb⟩
  rw [HN.out] at hps hq
  have HPF := hide' (show spN 4 l = [f 0, f 1, f 2] by rw [HPS.out, hps]; rfl)
  have B1 := hide' (show Below w.heap.size w w1 from ((Below.refl _ w).alloc (Nat.le_refl _) _).trans (hb.mono (by simp)))
  have R1 := hide' (show w1.heap[w.heap.size]? = some (.cells #[.int .i64 0, .int .i64 0, .int .i64 0, .int .i64 0] 25 (0, 0)) from (hb.block _ (by simp)).trans (heap_alloc_new _ _))
  have GN := hide' (show w.heap.size < g by simp at hg; omega)
  have c0 := hS.cell 0 (by omega)
  have OW0 := hide' (show opW (f 0) = 1 by rw [← HO.out, hps]; rfl)
  have OP := hide' (fun V (h : WoT V) => opOf_any ⟨(f 0).toArray⟩ V h)
  rw [toList_mk, OW0.out] at OP
  have u1 : w1.cell? ⟨1, 1, none⟩ = some (.int .i64 2) := HU.out w1 B1.out 1 (by omega)
  have HS := hide' hS
  rw [HN.out]
  clear hb hS hps hg
  go_wp2_with fail
  refine (OP.out w1 (HW.out w1 B1.out)).mono ?_
  rintro e w2 ⟨rfl, rfl⟩
  have Q1 : ¬ q = 1 := by omega
  have q1 : 1 ≤ q := by omega
  have NQ := hide' hq
  obtain ⟨w3, hw3⟩ : ∃ w3, w2.alloc (.cells #[.int .i64 0, .int .i64 0, .int .i64 0] 61) = w3 := ⟨_, rfl⟩
  have B3 := hide' (show Below w.heap.size w w3 by rw [← hw3]; exact B1.out.alloc B1.out.size _)
  have R3 := hide' (show w3.heap[w.heap.size]? = some (.cells #[.int .i64 0, .int .i64 0, .int .i64 0, .int .i64 0] 25 (0, 0)) by rw [← hw3]; exact (heap_alloc_old w2 _ (lt_of_block R1.out)).trans R1.out)
  have N3 := hide' (show w3.heap[w2.heap.size]? = some (.cells (nuR f 0) 61 (0, 0)) by rw [← hw3]; exact heap_alloc_new _ _)
  have S3 := hide' (show StB w3 g q f by rw [← hw3]; obtain ⟨cur, h1, h2⟩ := HS.out.row; exact ⟨cur, (heap_alloc_old w2 _ (lt_of_block h1)).trans h1, h2⟩)
  have LT := hide' (show w.heap.size < w2.heap.size ∧ g < w2.heap.size from ⟨lt_of_block R1.out, HS.out.lt⟩)
  obtain ⟨nb, hnb⟩ : ∃ nb, w2.heap.size = nb := ⟨_, rfl⟩
  rw [hnb] at N3 LT
  have HNB := hide' hnb
  have HW3 := hide' hw3
  clear hq hnb hw3 c0
  go_upto_region 6 with fail
  rw [HW3.out, HNB.out]
  go_wp2
  go_loopw [33] (fun kv wr => ∃ (k : Nat), kv = .int .i64 (k : Int) ∧ k ≤ 2 ∧ Hid (Below w.heap.size w wr) ∧ Hid (wr.heap[w.heap.size]? = some (.cells #[.int .i64 0, .int .i64 0, .int .i64 0, .int .i64 0] 25 (0, 0))) ∧ Hid (wr.heap[nb]? = some (.cells (nuR f k) 61 (0, 0))) ∧ Hid (StB wr g q f) ∧ Hid (∀ j, j < k → numB (f (j + 1)) = true)) (fun kv _ => 2 - (intOf kv).toNat)
  case atStart => exact ⟨0, rfl, by omega, B3, R3, N3, S3, hide' (fun j hj => by omega)⟩
  case round =>
    obtain ⟨k, rfl, hk, BW, RW, NW, SW, KS⟩ := hrel
    have i0 := cell_of_row wr _ 0 _ _ _ RW.out
    have i1 := cell_of_row wr _ 1 _ _ _ RW.out
    have i2 := cell_of_row wr _ 2 _ _ _ RW.out
    have i3 := cell_of_row wr _ 3 _ _ _ RW.out
    simp at i0 i1 i2 i3
    have j0 := frozen_of_row wr _ 0 _ _ RW.out
    have j1 := frozen_of_row wr _ 1 _ _ RW.out
    have j2 := frozen_of_row wr _ 2 _ _ RW.out
    have j3 := frozen_of_row wr _ 3 _ _ RW.out
    by_cases d : k = 2
    · subst d
      have n0 := cell_of_row wr nb 0 _ _ _ NW.out
      have n1 := cell_of_row wr nb 1 _ _ _ NW.out
      have n2 := cell_of_row wr nb 2 _ _ _ NW.out
      simp [nuR, nuA] at n0 n1 n2
      have LC := hide' (show lineC l = some (1, vlC (f 1), vlC (f 2), 0) by rw [line_two HPF.out OW0.out, if_pos (by rw [show numB (f 1) = true from KS.out 0 (by omega), show numB (f 2) = true from KS.out 1 (by omega)]; rfl)])
      go_wp2
      refine bodyPost_ret (v := .tuple #[insA (1, vlC (f 1), vlC (f 2), 0), .nilIface]) (by simp [results, Tryz.results38, go_sem, insA, i0, i1, i2, i3]) rfl ?_
      refine ⟨Or.inl ⟨_, LC.out, rfl⟩, ?_⟩
      repeat (first | exact BW.out | refine Below.setCell ?_ (by simp) _)
    · have ck : wr.cell? ⟨g, 1 + k, none⟩ = some (.string ⟨(f (k + 1)).toArray⟩) := by rw [Nat.add_comm 1 k]; exact SW.out.cell (k + 1) (by have := NQ.out; omega)
      have kn : (k : Int) < 2 := by omega
      have k0 : (0 : Int) ≤ (k : Int) := by omega
      cases hn : numB (f (k + 1)) with
      | false =>
        have RN := hide' (fun V => readNumber_no' (f (k + 1)) V hn)
        have LC := hide' (show lineC l = none by rw [line_two HPF.out OW0.out, if_neg]; intro q; simp at q; rcases (show k = 0 ∨ k = 1 by omega) with rfl | rfl <;> simp [q] at hn)
        clear hn
        go_wp2_with fail
        refine (RN.out _).mono ?_
        rintro e w5 ⟨rfl, rfl⟩
        go_wp2
        refine bodyPost_ret (v := .tuple #[insA (0, 0, 0, 0), .iface 73 (.int .i64 2)]) (by simp [results, Tryz.results38, go_sem, insA, i0, i1, i2, i3]) rfl ?_
        refine ⟨Or.inr ⟨LC.out, by rw [E.out]; rfl⟩, ?_⟩
        repeat (first | exact BW.out | refine Below.setCell ?_ (by simp) _)
      | true =>
        have RN := hide' (fun V => readNumber_ok' (f (k + 1)) V hn)
        have HNk := hide' hn
        obtain ⟨v, hv⟩ : ∃ v, vlC (f (k + 1)) = v := ⟨_, rfl⟩
        rw [hv] at RN
        have HV := hide' hv
        have nk : ∃ u, wr.cell? ⟨nb, k, none⟩ = some u := ⟨_, by rw [cell_of_row wr nb k _ _ _ NW.out]; exact Array.getElem?_eq_getElem (by show k < 3; omega)⟩
        obtain ⟨u, nk⟩ := nk
        have nf := frozen_of_row wr nb k _ _ NW.out
        clear hn hv i0 i1 i2 i3 j0 j1 j2 j3
        go_wp2_with fail
        refine (RN.out _).mono ?_
        rintro e w5 ⟨rfl, rfl⟩
        have k3 : (k : Int) < 3 := by omega
        go_wp2
        refine ⟨⟨k + 1, by go_num, by omega, hide' (BW.out.setCell (by have := LT.out; simp; omega) _), hide' ?_, hide' ?_, hide' ?_, hide' ?_⟩, by simp [intOf]; omega⟩
        · rw [Below.heap_setCell _ _ _ _ (by have := LT.out; simp; omega)]; exact RW.out
        · rw [heap_setCell_same w5 nb k _ _ _ NW.out, ← HV.out, nuR_next f k (by omega)]
        · obtain ⟨cur, h1, h2⟩ := SW.out.row
          exact ⟨cur, by rw [Below.heap_setCell _ _ _ _ (by have := LT.out; simp; omega)]; exact h1, h2⟩
        · intro j hj
          by_cases e : j = k
          · subst e; exact HNk.out
          · exact KS.out j (by omega)
set_option maxRecDepth 100000 in
set_option maxHeartbeats 6400000 in
theorem readLine_dec (l : List UInt8) (w : World) (hl : l.length ≤ 1048576) (hU : UsT w) (hW : WoT w) (ho : opW ((spN 4 l).getD 0 []) = 2) (hn : (spN 4 l).length = 4) :
    Calls Tryz.prog 38 #[.string ⟨l.toArray⟩] w (RlOut (lineC l) w) := by
  have E := hide' (errOf_is (f := 2) (by omega))
  have SN := hide' (fun V => splitN_any l V hl)
  obtain ⟨ps, hp⟩ : ∃ ps, spN 4 l = ps := ⟨_, rfl⟩
  have HPS := hide' hp
  rw [hp] at SN hn ho
  have HU := hide' (fun (V : World) (h : Below w.heap.size w V) => hU.below h)
  have HW := hide' (fun (V : World) (h : Below w.heap.size w V) => hW.below h)
  have HO := hide' ho
  have HN := hide' hn
  clear hp hU hW ho hn
  go_enter Tryz.func38, Tryz.ntmps38
  go_wp2_with fail
  refine (SN.out _).mono ?_
  rintro e w1 ⟨g, q, f, rfl, hq, hS, hps, hg, hb⟩
  rw [HN.out] at hps hq
  have HPF := hide' (show spN 4 l = [f 0, f 1, f 2, f 3] by rw [HPS.out, hps]; rfl)
  have B1 := hide' (show Below w.heap.size w w1 from ((Below.refl _ w).alloc (Nat.le_refl _) _).trans (hb.mono (by simp)))
  have R1 := hide' (show w1.heap[w.heap.size]? = some (.cells #[.int .i64 0, .int .i64 0, .int .i64 0, .int .i64 0] 25 (0, 0)) from (hb.block _ (by simp)).trans (heap_alloc_new _ _))
  have GN := hide' (show w.heap.size < g by simp at hg; omega)
  have c0 := hS.cell 0 (by omega)
  have OW0 := hide' (show opW (f 0) = 2 by rw [← HO.out, hps]; rfl)
  have OP := hide' (fun V (h : WoT V) => opOf_any ⟨(f 0).toArray⟩ V h)
  rw [toList_mk, OW0.out] at OP
  have u1 : w1.cell? ⟨1, 2, none⟩ = some (.int .i64 3) := HU.out w1 B1.out 2 (by omega)
  have HS := hide' hS
  rw [HN.out]
  clear hb hS hps hg
  go_wp2_with fail
  refine (OP.out w1 (HW.out w1 B1.out)).mono ?_
  rintro e w2 ⟨rfl, rfl⟩
  have Q1 : ¬ q = 1 := by omega
  have q1 : 1 ≤ q := by omega
  have NQ := hide' hq
  obtain ⟨w3, hw3⟩ : ∃ w3, w2.alloc (.cells #[.int .i64 0, .int .i64 0, .int .i64 0] 61) = w3 := ⟨_, rfl⟩
  have B3 := hide' (show Below w.heap.size w w3 by rw [← hw3]; exact B1.out.alloc B1.out.size _)
  have R3 := hide' (show w3.heap[w.heap.size]? = some (.cells #[.int .i64 0, .int .i64 0, .int .i64 0, .int .i64 0] 25 (0, 0)) by rw [← hw3]; exact (heap_alloc_old w2 _ (lt_of_block R1.out)).trans R1.out)
  have N3 := hide' (show w3.heap[w2.heap.size]? = some (.cells (nuR f 0) 61 (0, 0)) by rw [← hw3]; exact heap_alloc_new _ _)
  have S3 := hide' (show StB w3 g q f by rw [← hw3]; obtain ⟨cur, h1, h2⟩ := HS.out.row; exact ⟨cur, (heap_alloc_old w2 _ (lt_of_block h1)).trans h1, h2⟩)
  have LT := hide' (show w.heap.size < w2.heap.size ∧ g < w2.heap.size from ⟨lt_of_block R1.out, HS.out.lt⟩)
  obtain ⟨nb, hnb⟩ : ∃ nb, w2.heap.size = nb := ⟨_, rfl⟩
  rw [hnb] at N3 LT
  have HNB := hide' hnb
  have HW3 := hide' hw3
  clear hq hnb hw3 c0
  go_upto_region 6 with fail
  rw [HW3.out, HNB.out]
  go_wp2
  go_loopw [33] (fun kv wr => ∃ (k : Nat), kv = .int .i64 (k : Int) ∧ k ≤ 3 ∧ Hid (Below w.heap.size w wr) ∧ Hid (wr.heap[w.heap.size]? = some (.cells #[.int .i64 0, .int .i64 0, .int .i64 0, .int .i64 0] 25 (0, 0))) ∧ Hid (wr.heap[nb]? = some (.cells (nuR f k) 61 (0, 0))) ∧ Hid (StB wr g q f) ∧ Hid (∀ j, j < k → numB (f (j + 1)) = true)) (fun kv _ => 3 - (intOf kv).toNat)
  case atStart => exact ⟨0, rfl, by omega, B3, R3, N3, S3, hide' (fun j hj => by omega)⟩
  case round =>
    obtain ⟨k, rfl, hk, BW, RW, NW, SW, KS⟩ := hrel
    have i0 := cell_of_row wr _ 0 _ _ _ RW.out
    have i1 := cell_of_row wr _ 1 _ _ _ RW.out
    have i2 := cell_of_row wr _ 2 _ _ _ RW.out
    have i3 := cell_of_row wr _ 3 _ _ _ RW.out
    simp at i0 i1 i2 i3
    have j0 := frozen_of_row wr _ 0 _ _ RW.out
    have j1 := frozen_of_row wr _ 1 _ _ RW.out
    have j2 := frozen_of_row wr _ 2 _ _ RW.out
    have j3 := frozen_of_row wr _ 3 _ _ RW.out
    by_cases d : k = 3
    · subst d
      have n0 := cell_of_row wr nb 0 _ _ _ NW.out
      have n1 := cell_of_row wr nb 1 _ _ _ NW.out
      have n2 := cell_of_row wr nb 2 _ _ _ NW.out
      simp [nuR, nuA] at n0 n1 n2
      have LC := hide' (show lineC l = some (2, vlC (f 1), vlC (f 2), vlC (f 3)) by rw [line_three HPF.out OW0.out, if_pos (by rw [show numB (f 1) = true from KS.out 0 (by omega), show numB (f 2) = true from KS.out 1 (by omega), show numB (f 3) = true from KS.out 2 (by omega)]; rfl)])
      go_wp2
      refine bodyPost_ret (v := .tuple #[insA (2, vlC (f 1), vlC (f 2), vlC (f 3)), .nilIface]) (by simp [results, Tryz.results38, go_sem, insA, i0, i1, i2, i3]) rfl ?_
      refine ⟨Or.inl ⟨_, LC.out, rfl⟩, ?_⟩
      repeat (first | exact BW.out | refine Below.setCell ?_ (by simp) _)
    · have ck : wr.cell? ⟨g, 1 + k, none⟩ = some (.string ⟨(f (k + 1)).toArray⟩) := by rw [Nat.add_comm 1 k]; exact SW.out.cell (k + 1) (by have := NQ.out; omega)
      have kn : (k : Int) < 3 := by omega
      have k0 : (0 : Int) ≤ (k : Int) := by omega
      cases hn : numB (f (k + 1)) with
      | false =>
        have RN := hide' (fun V => readNumber_no' (f (k + 1)) V hn)
        have LC := hide' (show lineC l = none by rw [line_three HPF.out OW0.out, if_neg]; intro q; simp at q; rcases (show k = 0 ∨ k = 1 ∨ k = 2 by omega) with rfl | rfl | rfl <;> simp [q] at hn)
        clear hn
        go_wp2_with fail
        refine (RN.out _).mono ?_
        rintro e w5 ⟨rfl, rfl⟩
        go_wp2
        refine bodyPost_ret (v := .tuple #[insA (0, 0, 0, 0), .iface 73 (.int .i64 2)]) (by simp [results, Tryz.results38, go_sem, insA, i0, i1, i2, i3]) rfl ?_
        refine ⟨Or.inr ⟨LC.out, by rw [E.out]; rfl⟩, ?_⟩
        repeat (first | exact BW.out | refine Below.setCell ?_ (by simp) _)
      | true =>
        have RN := hide' (fun V => readNumber_ok' (f (k + 1)) V hn)
        have HNk := hide' hn
        obtain ⟨v, hv⟩ : ∃ v, vlC (f (k + 1)) = v := ⟨_, rfl⟩
        rw [hv] at RN
        have HV := hide' hv
        have nk : ∃ u, wr.cell? ⟨nb, k, none⟩ = some u := ⟨_, by rw [cell_of_row wr nb k _ _ _ NW.out]; exact Array.getElem?_eq_getElem (by show k < 3; omega)⟩
        obtain ⟨u, nk⟩ := nk
        have nf := frozen_of_row wr nb k _ _ NW.out
        clear hn hv i0 i1 i2 i3 j0 j1 j2 j3
        go_wp2_with fail
        refine (RN.out _).mono ?_
        rintro e w5 ⟨rfl, rfl⟩
        have k3 : (k : Int) < 3 := by omega
        go_wp2
        refine ⟨⟨k + 1, by go_num, by omega, hide' (BW.out.setCell (by have := LT.out; simp; omega) _), hide' ?_, hide' ?_, hide' ?_, hide' ?_⟩, by simp [intOf]; omega⟩
        · rw [Below.heap_setCell _ _ _ _ (by have := LT.out; simp; omega)]; exact RW.out
        · rw [heap_setCell_same w5 nb k _ _ _ NW.out, ← HV.out, nuR_next f k (by omega)]
        · obtain ⟨cur, h1, h2⟩ := SW.out.row
          exact ⟨cur, by rw [Below.heap_setCell _ _ _ _ (by have := LT.out; simp; omega)]; exact h1, h2⟩
        · intro j hj
          by_cases e : j = k
          · subst e; exact HNk.out
          · exact KS.out j (by omega)
set_option maxRecDepth 100000 in
set_option maxHeartbeats 6400000 in
theorem readLine_halt (l : List UInt8) (w : World) (hl : l.length ≤ 1048576) (hU : UsT w) (hW : WoT w) (ho : opW ((spN 4 l).getD 0 []) = 3) (hn : (spN 4 l).length = 1) :
    Calls Tryz.prog 38 #[.string ⟨l.toArray⟩] w (RlOut (lineC l) w) := by
  have E := hide' (errOf_is (f := 2) (by omega))
  have SN := hide' (fun V => splitN_any l V hl)
  obtain ⟨ps, hp⟩ : ∃ ps, spN 4 l = ps := ⟨_, rfl⟩
  have HPS := hide' hp
  rw [hp] at SN hn ho
  have HU := hide' (fun (V : World) (h : Below w.heap.size w V) => hU.below h)
  have HW := hide' (fun (V : World) (h : Below w.heap.size w V) => hW.below h)
  have HO := hide' ho
  have HN := hide' hn
  clear hp hU hW ho hn
  go_enter Tryz.func38, Tryz.ntmps38
  go_wp2_with fail
  refine (SN.out _).mono ?_
  rintro e w1 ⟨g, q, f, rfl, hq, hS, hps, hg, hb⟩
  rw [HN.out] at hps hq
  have HPF := hide' (show spN 4 l = [f 0] by rw [HPS.out, hps]; rfl)
  have B1 := hide' (show Below w.heap.size w w1 from ((Below.refl _ w).alloc (Nat.le_refl _) _).trans (hb.mono (by simp)))
  have R1 := hide' (show w1.heap[w.heap.size]? = some (.cells #[.int .i64 0, .int .i64 0, .int .i64 0, .int .i64 0] 25 (0, 0)) from (hb.block _ (by simp)).trans (heap_alloc_new _ _))
  have GN := hide' (show w.heap.size < g by simp at hg; omega)
  have c0 := hS.cell 0 (by omega)
  have OW0 := hide' (show opW (f 0) = 3 by rw [← HO.out, hps]; rfl)
  have OP := hide' (fun V (h : WoT V) => opOf_any ⟨(f 0).toArray⟩ V h)
  rw [toList_mk, OW0.out] at OP
  have u1 : w1.cell? ⟨1, 3, none⟩ = some (.int .i64 0) := HU.out w1 B1.out 3 (by omega)
  have HS := hide' hS
  rw [HN.out]
  clear hb hS hps hg
  go_wp2_with fail
  refine (OP.out w1 (HW.out w1 B1.out)).mono ?_
  rintro e w2 ⟨rfl, rfl⟩
  by_cases Q1 : q = 1
  · subst Q1
    skip
    obtain ⟨w3, hw3⟩ : ∃ w3, w2.alloc (.cells #[.int .i64 0, .int .i64 0, .int .i64 0] 61) = w3 := ⟨_, rfl⟩
    have B3 := hide' (show Below w.heap.size w w3 by rw [← hw3]; exact B1.out.alloc B1.out.size _)
    have R3 := hide' (show w3.heap[w.heap.size]? = some (.cells #[.int .i64 0, .int .i64 0, .int .i64 0, .int .i64 0] 25 (0, 0)) by rw [← hw3]; exact (heap_alloc_old w2 _ (lt_of_block R1.out)).trans R1.out)
    have N3 := hide' (show w3.heap[w2.heap.size]? = some (.cells (nuR f 0) 61 (0, 0)) by rw [← hw3]; exact heap_alloc_new _ _)
    obtain ⟨nb, hnb⟩ : ∃ nb, w2.heap.size = nb := ⟨_, rfl⟩
    rw [hnb] at N3
    have HNB := hide' hnb
    have HW3 := hide' hw3
    clear hnb hw3 c0
    go_upto_region 6 with fail
    rw [HW3.out, HNB.out]
    go_wp2
    go_loopw [33] (fun kv wr => kv = .int .i64 0 ∧ wr = w3) (fun kv _ => 0)
    case atStart => exact ⟨rfl, rfl⟩
    case round =>
      obtain ⟨rfl, rfl⟩ := hrel
      have i0 := cell_of_row wr _ 0 _ _ _ R3.out
      have i1 := cell_of_row wr _ 1 _ _ _ R3.out
      have i2 := cell_of_row wr _ 2 _ _ _ R3.out
      have i3 := cell_of_row wr _ 3 _ _ _ R3.out
      simp at i0 i1 i2 i3
      have j0 := frozen_of_row wr _ 0 _ _ R3.out
      have j1 := frozen_of_row wr _ 1 _ _ R3.out
      have j2 := frozen_of_row wr _ 2 _ _ R3.out
      have j3 := frozen_of_row wr _ 3 _ _ R3.out
      have n0 := cell_of_row wr nb 0 _ _ _ N3.out
      have n1 := cell_of_row wr nb 1 _ _ _ N3.out
      have n2 := cell_of_row wr nb 2 _ _ _ N3.out
      simp [nuR, nuA] at n0 n1 n2
      have LC := hide' (line_zero HPF.out OW0.out)
      go_wp2
      refine bodyPost_ret (v := .tuple #[insA (3, 0, 0, 0), .nilIface]) (by simp [results, Tryz.results38, go_sem, insA, i0, i1, i2, i3]) rfl ?_
      refine ⟨Or.inl ⟨_, LC.out, rfl⟩, ?_⟩
      repeat (first | exact B3.out | refine Below.setCell ?_ (by simp) _)
  · have q1 : 1 ≤ q := by omega
    obtain ⟨w3, hw3⟩ : ∃ w3, w2.alloc (.cells #[.int .i64 0, .int .i64 0, .int .i64 0] 61) = w3 := ⟨_, rfl⟩
    have B3 := hide' (show Below w.heap.size w w3 by rw [← hw3]; exact B1.out.alloc B1.out.size _)
    have R3 := hide' (show w3.heap[w.heap.size]? = some (.cells #[.int .i64 0, .int .i64 0, .int .i64 0, .int .i64 0] 25 (0, 0)) by rw [← hw3]; exact (heap_alloc_old w2 _ (lt_of_block R1.out)).trans R1.out)
    have N3 := hide' (show w3.heap[w2.heap.size]? = some (.cells (nuR f 0) 61 (0, 0)) by rw [← hw3]; exact heap_alloc_new _ _)
    obtain ⟨nb, hnb⟩ : ∃ nb, w2.heap.size = nb := ⟨_, rfl⟩
    rw [hnb] at N3
    have HNB := hide' hnb
    have HW3 := hide' hw3
    clear hnb hw3 c0
    go_upto_region 6 with fail
    rw [HW3.out, HNB.out]
    go_wp2
    go_loopw [33] (fun kv wr => kv = .int .i64 0 ∧ wr = w3) (fun kv _ => 0)
    case atStart => exact ⟨rfl, rfl⟩
    case round =>
      obtain ⟨rfl, rfl⟩ := hrel
      have i0 := cell_of_row wr _ 0 _ _ _ R3.out
      have i1 := cell_of_row wr _ 1 _ _ _ R3.out
      have i2 := cell_of_row wr _ 2 _ _ _ R3.out
      have i3 := cell_of_row wr _ 3 _ _ _ R3.out
      simp at i0 i1 i2 i3
      have j0 := frozen_of_row wr _ 0 _ _ R3.out
      have j1 := frozen_of_row wr _ 1 _ _ R3.out
      have j2 := frozen_of_row wr _ 2 _ _ R3.out
      have j3 := frozen_of_row wr _ 3 _ _ R3.out
      have n0 := cell_of_row wr nb 0 _ _ _ N3.out
      have n1 := cell_of_row wr nb 1 _ _ _ N3.out
      have n2 := cell_of_row wr nb 2 _ _ _ N3.out
      simp [nuR, nuA] at n0 n1 n2
      have LC := hide' (line_zero HPF.out OW0.out)
      go_wp2
      refine bodyPost_ret (v := .tuple #[insA (3, 0, 0, 0), .nilIface]) (by simp [results, Tryz.results38, go_sem, insA, i0, i1, i2, i3]) rfl ?_
      refine ⟨Or.inl ⟨_, LC.out, rfl⟩, ?_⟩
      repeat (first | exact B3.out | refine Below.setCell ?_ (by simp) _)
theorem readLine_any (l : List UInt8) (w : World) (hl : l.length ≤ 1048576) (hU : UsT w) (hW : WoT w) : Calls Tryz.prog 38 #[.string ⟨l.toArray⟩] w (RlOut (lineC l) w) := by
  by_cases hr : opW ((spN 4 l).getD 0 []) = 0 ∨ (((spN 4 l).length : Int) ≠ 1 + usN (opW ((spN 4 l).getD 0 [])))
  · refine (readLine_word l w hl hU hW hr).mono ?_
    rintro e w' ⟨rfl, hb⟩
    exact ⟨Or.inr ⟨by unfold lineC; rw [if_pos hr], rfl⟩, hb⟩
  · have h0 : opW ((spN 4 l).getD 0 []) ≠ 0 := fun e => hr (Or.inl e)
    have hn : ((spN 4 l).length : Int) = 1 + usN (opW ((spN 4 l).getD 0 [])) := Classical.byContradiction fun e => hr (Or.inr e)
    have h4 := opW_lt ((spN 4 l).getD 0 [])
    rcases (show opW ((spN 4 l).getD 0 []) = 1 ∨ opW ((spN 4 l).getD 0 []) = 2 ∨ opW ((spN 4 l).getD 0 []) = 3 by omega) with h | h | h
    · rw [h] at hn
      have : usN 1 = 2 := rfl
      exact readLine_inc l w hl hU hW h (by omega)
    · rw [h] at hn
      have : usN 2 = 3 := rfl
      exact readLine_dec l w hl hU hW h (by omega)
    · rw [h] at hn
      have : usN 3 = 0 := rfl
      exact readLine_halt l w hl hU hW h (by omega)
end Go.Proofs.YtcfoeadfhkojeaaGreatDoor

