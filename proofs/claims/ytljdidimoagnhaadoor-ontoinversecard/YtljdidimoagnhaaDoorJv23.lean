/-
  What the last text of this claim leans on, part 23: Ob3, Ob4.
-/
import Derived.Test.YtljdidimoagnhaaDoorJv22
import Derived.Deep.RegionHeld3
namespace Go.Proofs.YtljdidimoagnhaaDoor
open Go.RowKit
set_option linter.unusedVariables false

/-- The rule's box and a list of the call's own. -/
structure QS (w wr : World) (S R : Nat) (v : Value) (g : Nat) (xs : List Int) : Prop where
  rb : RB w.heap.size S R v wr
  bl : Below w.heap.size w wr
  cl : Cel wr g xs
  lt : w.heap.size < g
theorem QS.below {w wr w' : World} {S R g : Nat} {v : Value} {xs : List Int} (h : QS w wr S R v g xs) (hb : Below wr.heap.size wr w') : QS w w' S R v g xs :=
  ⟨h.rb.next hb, h.bl.trans (hb.mono h.bl.size), h.cl.below hb, h.lt⟩
theorem QS.set {w wr : World} {S R g : Nat} {v : Value} {xs : List Int} (h : QS w wr S R v g xs) (i : Nat) (x : Int) (hi : i < xs.length) : QS w (wr.setCell ⟨g, i, none⟩ (.int .i64 x)) S R v g (xs.set i x) :=
  ⟨h.rb.block (heap_setCell_other _ _ _ _ _ (by have := h.lt; omega)), h.bl.setCell (Nat.le_of_lt h.lt) _, h.cl.set i x hi, h.lt⟩
theorem QS.setOther {w wr : World} {S R g f : Nat} {v : Value} {xs : List Int} (h : QS w wr S R v g xs) (hf : w.heap.size < f) (hne : g ≠ f) (i : Nat) (u : Value) : QS w (wr.setCell ⟨f, i, none⟩ u) S R v g xs :=
  ⟨h.rb.block (heap_setCell_other _ _ _ _ _ (by omega)), h.bl.setCell (Nat.le_of_lt hf) _, h.cl.block (by simp) (heap_setCell_other _ _ _ _ _ hne), h.lt⟩
theorem QS.drew {w wr : World} {S R g : Nat} {v : Value} {xs : List Int} (h : QS w wr S R v g xs) : QS w wr.drew S R v g xs :=
  ⟨h.rb.block rfl, h.bl.drew, ⟨h.cl.lt, h.cl.cells, h.cl.fz⟩, h.lt⟩
theorem QS.new {w wr : World} {S R g : Nat} {v : Value} {xs : List Int} (h : QS w wr S R v g xs) (N : Nat) (t : TypeId) : QS w (wr.alloc (.cells (madeCells #[.int .i64 0] N) t)) S R v wr.heap.size (List.replicate N 0) :=
  ⟨h.rb.alloc _, h.bl.alloc h.bl.size _, Cel.made wr N t, Nat.lt_of_lt_of_le h.rb.lt (Nat.le_refl _)⟩

set_option maxRecDepth 100000 in
set_option maxHeartbeats 12800000 in
theorem refCounts_any (S R n : Nat) (T : List Int) (ta : Option Addr) (tn tc : Nat) (ws : List Int) (wa : Option Addr) (L wc : Nat) (w : World) (hL : LineOk S R T) (hT : ArgP w T ta tn tc) (hW : ArgP w ws wa L wc) (hp : plc S R = n) (hn : 0 < n) (hn16 : n ≤ 16) (htn : tn = n * S) (hl : L ≤ 1000) :
    Calls Tryd.prog 134 #[.agg #[.int .i64 2, .int .i64 0, .int .i64 0, .int .i64 (S : Int), .int .i64 (R : Int), .slice ta tn tc, .string ⟨#[]⟩], .slice wa L wc] w fun e w' => ∃ g, e = .returned (.slice (some ⟨g, 0, none⟩) n n) ∧ Cel w' g (cntL S n T ws L) ∧ Below w.heap.size w w' := by
  obtain ⟨w1, hw1⟩ : ∃ w1, w.alloc (.cells #[.int .i64 2, .int .i64 0, .int .i64 0, .int .i64 (S : Int), .int .i64 (R : Int), .slice ta tn tc, .string ⟨#[]⟩] 24) = w1 := ⟨_, rfl⟩
  have BB := hide' (show Below w.heap.size w w1 by rw [← hw1]; exact (Below.refl _ _).alloc (Nat.le_refl _) _)
  have RX := hide' (show RB w.heap.size S R (.slice ta tn tc) w1 by rw [← hw1]; exact RB.new w S R _ _)
  have hS := hL.s2
  have hS4 := hL.s4
  have PL := hide' (fun (wr : World) => show Calls Tryd.prog 71 #[.agg #[.int .i64 2, .int .i64 0, .int .i64 0, .int .i64 (S : Int), .int .i64 (R : Int), .slice ta tn tc, .string ⟨#[]⟩]] wr fun e w' => e = .returned (.int .i64 (n : Int)) ∧ Below wr.heap.size wr w' by have := refPlaces_any S R T ta tn tc wr hL; rw [hp] at this; exact this)
  have AT := hide' hT
  have AW := hide' hW
  have HTN := hide' htn
  have t64 : tn ≤ 64 := by rw [htn]; exact Nat.mul_le_mul hn16 hS4
  have LL := hide' (fun i => cntL_length S n T ws i)
  have LS := hide' (fun i => cntL_small S n T ws i)
  have hmk := run_make_row' (P := Tryd.prog) 22 3 (.int .i64 0) 8 Tryd.underlying22 info_int rfl .i64 .i64 n (by omega) (by omega)
  clear hL hT hW htn hp
  obtain ⟨x0, x1, x2, x3, x4, x5, x6⟩ := RX.out
  go_enter Tryd.func134, Tryd.ntmps134
  go_wp2_with fail
  refine (PL.out _).mono ?_
  rintro e w2 ⟨rfl, b2⟩
  have R2 := hide' (RX.out.next b2)
  have B2 := hide' (BB.out.trans (b2.mono BB.out.size))
  have P0 := hide' (show QS w (w2.alloc (.cells (madeCells #[.int .i64 0] n) 3)) S R (.slice ta tn tc) w2.heap.size (List.replicate n 0) from ⟨R2.out.alloc _, B2.out.alloc B2.out.size _, Cel.made w2 n _, Nat.lt_of_lt_of_le R2.out.lt (Nat.le_refl _)⟩)
  obtain ⟨g0, hg0⟩ : ∃ g0, w2.heap.size = g0 := ⟨_, rfl⟩
  rw [hg0] at P0
  clear x0 x1 x2 x3 x4 x5 x6 b2 hw1 R2 B2
  go_wp2
  try rw [hg0]
  go_loopw [8] (fun iv wr => ∃ i : Nat, iv = .int .i64 (i : Int) ∧ i ≤ n ∧ Hid (QS w wr S R (.slice ta tn tc) g0 (mixL (List.replicate n 1) (List.replicate n 0) i))) (fun iv _ => n - (intOf iv).toNat)
  case atStart => exact ⟨0, rfl, by omega, hide' (by rw [mixL_zero]; exact P0.out)⟩
  case round =>
    clear P0 hg0
    obtain ⟨i, rfl, hi, HH⟩ := hrel
    by_cases d : (i : Int) < (n : Int)
    · have HC := HH.out.cl.cells i (by rw [mixL_length]; simp; omega)
      have HF := HH.out.cl.fz i
      go_wp2
      refine ⟨⟨i + 1, by go_num, by omega, hide' ?_⟩, by simp [intOf]; omega⟩
      have := HH.out.set i 1 (by rw [mixL_length]; simp; omega)
      rw [mixL_set _ _ _ (show (List.replicate n (1 : Int)).getD i 0 = 1 by simp [List.getD, show i < n by omega])] at this
      exact this
    · have P1 := hide' (show QS w wr S R (.slice ta tn tc) g0 (cntL S n T ws 0) by
        have := HH.out
        rw [show i = (List.replicate n (0 : Int)).length by simp; omega, mixL_full _ _ (by simp)] at this
        exact this)
      clear HH
      go_wp2
      go_loopw [7, 9] (fun cv iv wr => ∃ i g : Nat, cv = .slice (some ⟨g, 0, none⟩) n n ∧ iv = .int .i64 (i : Int) ∧ i ≤ L ∧ Hid (QS w wr S R (.slice ta tn tc) g (cntL S n T ws i))) (fun _ iv _ => L - (intOf iv).toNat)
      case atStart => exact ⟨0, _, rfl, rfl, by omega, P1⟩
      case round =>
        clear P1
        obtain ⟨i, g, rfl, rfl, hi, H1⟩ := hrel
        by_cases d : (i : Int) < (L : Int)
        · obtain ⟨s, hs⟩ : ∃ s, ws.getD i 0 = s := ⟨_, rfl⟩
          have HS := hide' hs
          have P1 := hide' (H1.out.new n 3)
          have Q1 := hide' (H1.out.below ((Below.refl _ _).alloc (Nat.le_refl _) (.cells (madeCells #[.int .i64 0] n) 3)))
          obtain ⟨f, hf⟩ : ∃ f, wr.heap.size = f := ⟨_, rfl⟩
          have fl : w.heap.size < f := by have := H1.out.rb.lt; omega
          have fg : g ≠ f := by have := H1.out.cl.lt; omega
          rw [hf] at P1
          clear hs H1
          go_wp2
          try rw [hf]
          go_loopw [11] (fun iv wr => ∃ q : Nat, iv = .int .i64 (q : Int) ∧ q ≤ n ∧ Hid (QS w wr S R (.slice ta tn tc) g (cntL S n T ws i) ∧ QS w wr S R (.slice ta tn tc) f (cntS S n T (cntL S n T ws i) s (q * S)))) (fun iv _ => n - (intOf iv).toNat)
          case atStart => exact ⟨0, rfl, by omega, hide' ⟨Q1.out, by rw [Nat.zero_mul]; exact P1.out⟩⟩
          case round =>
            clear P1 Q1 hf
            obtain ⟨q, rfl, hq, H2⟩ := hrel
            by_cases d : (q : Int) < (n : Int)
            · obtain ⟨x, hx⟩ : ∃ x, (cntL S n T ws i).getD q 0 = x := ⟨_, rfl⟩
              have HX := hide' hx
              have XS := hide' (show 0 ≤ x ∧ x ≤ big by rw [← hx]; exact LS.out i q)
              clear hx
              go_wp2
              go_loopw [12] (fun iv wr => ∃ c : Nat, iv = .int .i64 (c : Int) ∧ c ≤ S ∧ Hid (QS w wr S R (.slice ta tn tc) g (cntL S n T ws i) ∧ QS w wr S R (.slice ta tn tc) f (cntS S n T (cntL S n T ws i) s (q * S + c)))) (fun iv _ => S - (intOf iv).toNat)
              case atStart => exact ⟨0, rfl, by omega, H2⟩
              case round =>
                clear H2
                obtain ⟨c, rfl, hc, H3⟩ := hrel
                obtain ⟨x0, x1, x2, x3, x4, x5, x6⟩ := H3.out.1.rb
                by_cases d : (c : Int) < (S : Int)
                · obtain ⟨j, hj⟩ : ∃ j, q * S + c = j := ⟨_, rfl⟩
                  have jt : j < tn := by
                    rw [HTN.out, ← hj]
                    have : (q + 1) * S ≤ n * S := Nat.mul_le_mul_right _ (by omega)
                    rw [Nat.add_mul] at this
                    omega
                  have jd := hide' (show j / S = q by rw [← hj, Nat.mul_comm, Nat.mul_add_div (by omega), Nat.div_eq_of_lt (by omega)]; omega)
                  obtain ⟨k, hk⟩ : ∃ k, q * S = k := ⟨_, rfl⟩
                  have q2 : (q : Int) * (S : Int) = (k : Int) := by rw [← hk]; simp
                  have k4 : k ≤ 64 := by omega
                  have q3 : (k : Int) + (c : Int) = (j : Int) := by omega
                  obtain ⟨m, hm⟩ : ∃ m, j % n = m := ⟨_, rfl⟩
                  have mn : m < n := by rw [← hm]; exact Nat.mod_lt _ hn
                  have q4 : (j : Int).tmod (n : Int) = (m : Int) := by rw [Int.tmod_eq_emod_of_nonneg (by omega), ← hm]; simp
                  have q5 : ¬ (n : Int) = 0 := by omega
                  obtain ⟨ga, off, rfl, hcw⟩ := (AW.out.below H3.out.1.bl).at (k := i) (by omega)
                  rw [HS.out] at hcw
                  obtain ⟨gt, offt, rfl, hct⟩ := (AT.out.below H3.out.1.bl).at (k := j) jt
                  obtain ⟨t, ht⟩ : ∃ t, T.getD j 0 = t := ⟨_, rfl⟩
                  rw [ht] at hct
                  have cx := H3.out.1.cl.cells q (by rw [LL.out]; omega)
                  rw [HX.out] at cx
                  have NX := hide' (show cntS S n T (cntL S n T ws i) s (j + 1) = if t = s then (cntS S n T (cntL S n T ws i) s j).set m (satB ((cntS S n T (cntL S n T ws i) s j).getD m 0) x) else cntS S n T (cntL S n T ws i) s j by
                    rw [cntS, ht, hm, jd.out, HX.out])
                  rw [hj] at H3
                  have JJ := hide' (show q * S + (c + 1) = j + 1 by omega)
                  obtain ⟨y, hy⟩ : ∃ y, (cntS S n T (cntL S n T ws i) s j).getD m 0 = y := ⟨_, rfl⟩
                  have YS := hide' (show 0 ≤ y ∧ y ≤ big by rw [← hy]; exact cntS_small S n T _ s (LS.out i) j m)
                  have cy := H3.out.2.cl.cells m (by rw [cntS_length]; exact mn)
                  have cf := H3.out.2.cl.fz m
                  rw [hy] at cy NX
                  have b1 : 0 ≤ y := YS.out.1
                  have b2 : y ≤ 1000000000000000001 := YS.out.2
                  have b3 : 0 ≤ x := XS.out.1
                  have b4 : x ≤ 1000000000000000001 := XS.out.2
                  clear hy hm ht jd hk hj
                  by_cases dts : t = s
                  · have e1 : (t == s) = true := by simp [dts]
                    by_cases d3 : y + x > 1000000000000000001
                    · have N1 := hide' (show cntS S n T (cntL S n T ws i) s (j + 1) = ((cntS S n T (cntL S n T ws i) s j).set m (y + x)).set m 1000000000000000001 by rw [NX.out, if_pos dts, List.set_set]; unfold satB; rw [if_pos (show _ > big from d3)]; rfl)
                      clear dts NX
                      go_wp2
                      go_region
                      go_wp2
                      go_region
                      go_wp2
                      refine ⟨⟨c + 1, by go_num, by omega, hide' ?_⟩, by simp [intOf]; omega⟩
                      rw [JJ.out, N1.out]
                      exact ⟨((H3.out.1.drew.setOther fl fg _ _).drew).setOther fl fg _ _, ((H3.out.2.drew.set m _ (by rw [cntS_length]; exact mn)).drew).set m _ (by rw [List.length_set, cntS_length]; exact mn)⟩
                    · have N1 := hide' (show cntS S n T (cntL S n T ws i) s (j + 1) = (cntS S n T (cntL S n T ws i) s j).set m (y + x) by rw [NX.out, if_pos dts]; unfold satB; rw [if_neg (show ¬ _ > big from d3)])
                      clear dts NX
                      go_wp2
                      go_region
                      go_wp2
                      go_region
                      go_wp2
                      refine ⟨⟨c + 1, by go_num, by omega, hide' ?_⟩, by simp [intOf]; omega⟩
                      rw [JJ.out, N1.out]
                      exact ⟨(H3.out.1.drew.setOther fl fg _ _).drew, (H3.out.2.drew.set m _ (by rw [cntS_length]; exact mn)).drew⟩
                  · have N1 := hide' (show cntS S n T (cntL S n T ws i) s (j + 1) = cntS S n T (cntL S n T ws i) s j by rw [NX.out, if_neg dts])
                    have e1 : (t == s) = false := by simp [dts]
                    clear dts NX
                    go_wp2
                    go_region
                    go_wp2
                    refine ⟨⟨c + 1, by go_num, by omega, hide' ?_⟩, by simp [intOf]; omega⟩
                    rw [JJ.out, N1.out]
                    exact ⟨H3.out.1.drew, H3.out.2.drew⟩
                · have H4 := hide' (show QS w wr S R (.slice ta tn tc) g (cntL S n T ws i) ∧ QS w wr S R (.slice ta tn tc) f (cntS S n T (cntL S n T ws i) s ((q + 1) * S)) by
                    have := H3.out
                    rw [show q * S + c = (q + 1) * S by rw [Nat.add_mul]; omega] at this
                    exact this)
                  clear H3
                  go_wp2
                  exact ⟨⟨q + 1, by go_num, by omega, H4⟩, by simp [intOf]; omega⟩
            · have H4 := hide' (show QS w wr S R (.slice ta tn tc) f (cntL S n T ws (i + 1)) by
                have := H2.out.2
                rw [show q = n by omega, ← HS.out] at this
                exact this)
              clear H2
              go_wp2
              exact ⟨⟨i + 1, f, rfl, by go_num, by omega, H4⟩, by simp [intOf]; omega⟩
        · have FIN := hide' (show Cel wr g (cntL S n T ws L) by have := H1.out.cl; rw [show i = L by omega] at this; exact this)
          go_wp2
          go_ret
          exact ⟨g, rfl, FIN.out, H1.out.bl⟩

set_option maxRecDepth 100000 in
set_option maxHeartbeats 3200000 in
theorem refParents_any (S R n : Nat) (T : List Int) (ta : Option Addr) (tn tc : Nat) (ws : List Int) (wa : Option Addr) (L wc : Nat) (w : World) (hL : LineOk S R T) (hT : ArgP w T ta tn tc) (hW : ArgP w ws wa L wc) (hp : plc S R = n) (hn : 0 < n) (hn16 : n ≤ 16) (htn : tn = n * S) (hl : L ≤ 1000) :
    Calls Tryd.prog 70 #[.agg #[.int .i64 2, .int .i64 0, .int .i64 0, .int .i64 (S : Int), .int .i64 (R : Int), .slice ta tn tc, .string ⟨#[]⟩], .slice wa L wc] w fun e w' => e = .returned (.int .i64 (parL S n T ws)) ∧ Below w.heap.size w w' := by
  obtain ⟨w1, hw1⟩ : ∃ w1, w.alloc (.cells #[.int .i64 2, .int .i64 0, .int .i64 0, .int .i64 (S : Int), .int .i64 (R : Int), .slice ta tn tc, .string ⟨#[]⟩] 24) = w1 := ⟨_, rfl⟩
  have BB := hide' (show Below w.heap.size w w1 by rw [← hw1]; exact (Below.refl _ _).alloc (Nat.le_refl _) _)
  have RX := hide' (show RB w.heap.size S R (.slice ta tn tc) w1 by rw [← hw1]; exact RB.new w S R _ _)
  have CN := hide' (refCounts_any S R n T ta tn tc ws wa L wc w1 hL (hT.below BB.out) (hW.below BB.out) hp hn hn16 htn hl)
  have XL := hide' (cntL_length S n T ws L)
  have XB := hide' (cntL_small S n T ws L)
  obtain ⟨ans, hans⟩ : ∃ ans, parL S n T ws = ans := ⟨_, rfl⟩
  have AN := hide' (show sumB (cntL S n T ws L) n = ans by rw [← hans, hW.len]; rfl)
  rw [hans]
  generalize cntL S n T ws L = xs at CN XL XB AN
  clear hans hL hT hW hp htn
  obtain ⟨x0, x1, x2, x3, x4, x5, x6⟩ := RX.out
  go_enter Tryd.func70, Tryd.ntmps70
  go_wp2_with fail
  refine CN.out.mono ?_
  rintro e w2 ⟨g, rfl, c2, b2⟩
  have C2 := hide' c2
  have B2 := hide' (BB.out.trans (b2.mono BB.out.size))
  clear x0 x1 x2 x3 x4 x5 x6 c2 b2 hw1 CN
  go_wp2
  go_loopw [7, 8] (fun tv iv wr => ∃ (k : Nat) (t : Int), tv = .int .i64 t ∧ iv = .int .i64 (k : Int) ∧ k ≤ n ∧ wr = w2 ∧ Hid (t = sumB xs k)) (fun _ iv _ => n - (intOf iv).toNat)
  case atStart => exact ⟨0, 0, rfl, rfl, by omega, by trivial, hide' rfl⟩
  case round =>
    obtain ⟨k, t, rfl, rfl, hk, rfl, HT⟩ := hrel
    by_cases d : (k : Int) < (n : Int)
    · have hck := C2.out.cells k (by rw [XL.out]; omega)
      obtain ⟨y, hy⟩ : ∃ y, xs.getD k 0 = y := ⟨_, rfl⟩
      have b3 : 0 ≤ y := by rw [← hy]; exact (XB.out k).1
      have b4 : y ≤ 1000000000000000001 := by rw [← hy]; exact (XB.out k).2
      have b5 : 0 ≤ t := by rw [HT.out]; exact (sumB_in xs XB.out k).1
      have b6 : t ≤ 1000000000000000001 := by rw [HT.out]; exact (sumB_in xs XB.out k).2
      have NX := hide' (show sumB xs (k + 1) = satB t y by rw [sumB, hy, HT.out])
      rw [hy] at hck
      clear hy
      by_cases d3 : t + y > 1000000000000000001
      · have N1 := hide' (show (1000000000000000001 : Int) = sumB xs (k + 1) by rw [NX.out]; unfold satB; rw [if_pos (show _ > big from d3)]; rfl)
        go_wp2
        exact ⟨⟨k + 1, _, rfl, by go_num, by omega, by trivial, N1⟩, by simp [intOf]; omega⟩
      · have N1 := hide' (show t + y = sumB xs (k + 1) by rw [NX.out]; unfold satB; rw [if_neg (show ¬ _ > big from d3)])
        go_wp2
        exact ⟨⟨k + 1, _, rfl, by go_num, by omega, by trivial, N1⟩, by simp [intOf]; omega⟩
    · have E := hide' (show t = ans by rw [HT.out, show k = n by omega]; exact AN.out)
      go_wp2
      go_ret
      exact ⟨by rw [← E.out]; rfl, B2.out⟩
end Go.Proofs.YtljdidimoagnhaaDoor

namespace Go.Proofs.YtljdidimoagnhaaDoor
open Go.RowKit
set_option linter.unusedVariables false

def SMg (w : World) (S R : Nat) (ta : Option Addr) (tn tc : Nat) (w' : World) : Prop := w'.cell? ⟨w.heap.size, 0, none⟩ = some (.int .i64 2) ∧ w'.cell? ⟨w.heap.size, 1, none⟩ = some (.int .i64 0) ∧ w'.cell? ⟨w.heap.size, 2, none⟩ = some (.int .i64 0) ∧ w'.cell? ⟨w.heap.size, 3, none⟩ = some (.int .i64 (S : Int)) ∧ w'.cell? ⟨w.heap.size, 4, none⟩ = some (.int .i64 (R : Int)) ∧ w'.cell? ⟨w.heap.size, 5, none⟩ = some (.slice ta tn tc) ∧ w'.cell? ⟨w.heap.size, 6, none⟩ = some (.string ⟨#[]⟩)
theorem SMg.of {w w' : World} {S R : Nat} {ta : Option Addr} {tn tc : Nat} (h : RB w.heap.size S R (.slice ta tn tc) w') : SMg w S R ta tn tc w' := by
  obtain ⟨x0, x1, x2, x3, x4, x5, x6⟩ := h
  exact ⟨x0, x1, x2, x3, x4, x5, x6⟩

theorem SMg.stored {w w2 : World} {S R : Nat} {ta : Option Addr} {tn tc : Nat} (h : RB w.heap.size S R (.slice ta tn tc) w2) (a b c d : Value) :
    SMg w S R ta tn tc ((((w2.setCell ⟨w.heap.size + 1, 0, none⟩ a).setCell ⟨w.heap.size + 1, 1, none⟩ b).setCell ⟨w.heap.size + 1, 2, none⟩ c).setCell ⟨w.heap.size + 1, 3, none⟩ d) :=
  SMg.of (h.block (by rw [heap_setCell_other _ _ _ _ _ (by omega), heap_setCell_other _ _ _ _ _ (by omega), heap_setCell_other _ _ _ _ _ (by omega), heap_setCell_other _ _ _ _ _ (by omega)]))

theorem stored4 {w2 : World} {p : Nat} {z0 z1 z2 z3 : Value} (h0 : w2.cell? ⟨p, 0, none⟩ = some z0) (h1 : w2.cell? ⟨p, 1, none⟩ = some z1) (h2 : w2.cell? ⟨p, 2, none⟩ = some z2) (h3 : w2.cell? ⟨p, 3, none⟩ = some z3) (a b c d : Value) {W : World}
    (e : W = ((((w2.setCell ⟨p, 0, none⟩ a).setCell ⟨p, 1, none⟩ b).setCell ⟨p, 2, none⟩ c).setCell ⟨p, 3, none⟩ d)) :
    W.cell? ⟨p, 0, none⟩ = some a ∧ W.cell? ⟨p, 1, none⟩ = some b ∧ W.cell? ⟨p, 2, none⟩ = some c ∧ W.cell? ⟨p, 3, none⟩ = some d := by
  subst e
  have o : ∀ (W : World) (i j : Nat) (u : Value), i ≠ j → (W.setCell ⟨p, i, none⟩ u).cell? ⟨p, j, none⟩ = W.cell? ⟨p, j, none⟩ := fun W i j u h => World.cell?_setCell_other _ ⟨p, i, none⟩ ⟨p, j, none⟩ _ (fun q => h (congrArg Addr.off q))
  refine ⟨?_, ?_, ?_, ?_⟩
  · rw [o _ 3 0 _ (by decide), o _ 2 0 _ (by decide), o _ 1 0 _ (by decide)]; exact World.cell?_setCell_same _ _ _ h0
  · rw [o _ 3 1 _ (by decide), o _ 2 1 _ (by decide)]; exact World.cell?_setCell_same _ _ _ (by rw [o _ 0 1 _ (by decide)]; exact h1)
  · rw [o _ 3 2 _ (by decide)]; exact World.cell?_setCell_same _ _ _ (by rw [o _ 1 2 _ (by decide), o _ 0 2 _ (by decide)]; exact h2)
  · exact World.cell?_setCell_same _ _ _ (by rw [o _ 2 3 _ (by decide), o _ 1 3 _ (by decide), o _ 0 3 _ (by decide)]; exact h3)
theorem below4 {w w2 : World} {p : Nat} (h : Below w.heap.size w w2) (hp : w.heap.size ≤ p) (a b c d : Value) : Below w.heap.size w ((((w2.setCell ⟨p, 0, none⟩ a).setCell ⟨p, 1, none⟩ b).setCell ⟨p, 2, none⟩ c).setCell ⟨p, 3, none⟩ d) :=
  (((h.setCell (p := ⟨p, 0, none⟩) hp _).setCell (p := ⟨p, 1, none⟩) hp _).setCell (p := ⟨p, 2, none⟩) hp _).setCell (p := ⟨p, 3, none⟩) hp _

set_option maxRecDepth 100000 in
set_option maxHeartbeats 3200000 in
theorem graphOf_any (S R : Nat) (T : List Int) (ta : Option Addr) (tn tc n : Nat) (w : World) (hL : LineOk S R T) (hn : tn / S = n) (ht : tn ≤ 4096) :
    Calls Tryd.prog 125 #[.agg #[.int .i64 2, .int .i64 0, .int .i64 0, .int .i64 (S : Int), .int .i64 (R : Int), .slice ta tn tc, .string ⟨#[]⟩]] w fun e w' => e = .returned (.agg #[.int .i64 (S : Int), .int .i64 (2 * (R : Int)), .int .i64 (n : Int), .slice ta tn tc]) ∧ Below w.heap.size w w' := by
  obtain ⟨w1, hw1⟩ : ∃ w1, (w.alloc (.cells #[.int .i64 2, .int .i64 0, .int .i64 0, .int .i64 (S : Int), .int .i64 (R : Int), .slice ta tn tc, .string ⟨#[]⟩] 24)).alloc (.cells #[.int .i64 0, .int .i64 0, .int .i64 0, .slice none 0 0] 144) = w1 := ⟨_, rfl⟩
  have BB := hide' (show Below w.heap.size w w1 by rw [← hw1]; exact ((Below.refl _ _).alloc (Nat.le_refl _) _).alloc (by simp) _)
  have RX := hide' (show RB w.heap.size S R (.slice ta tn tc) w1.drew by rw [← hw1]; exact ((RB.new w S R _ _).alloc _).block rfl)
  have s1 : w1.heap.size = w.heap.size + 2 := by rw [← hw1]; simp
  have ZC0 := hide' (show w1.cell? ⟨w.heap.size + 1, 0, none⟩ = some (.int .i64 0) by rw [← hw1, World.cell?_alloc_at _ _ _ _ (by simp)]; rfl)
  have ZC1 := hide' (show w1.cell? ⟨w.heap.size + 1, 1, none⟩ = some (.int .i64 0) by rw [← hw1, World.cell?_alloc_at _ _ _ _ (by simp)]; rfl)
  have ZC2 := hide' (show w1.cell? ⟨w.heap.size + 1, 2, none⟩ = some (.int .i64 0) by rw [← hw1, World.cell?_alloc_at _ _ _ _ (by simp)]; rfl)
  have ZC3 := hide' (show w1.cell? ⟨w.heap.size + 1, 3, none⟩ = some (.slice none 0 0) by rw [← hw1, World.cell?_alloc_at _ _ _ _ (by simp)]; rfl)
  have ZF := hide' (show ∀ k, w1.frozen? ⟨w.heap.size + 1, k, none⟩ = false by
    intro k
    rw [← hw1]; simp)
  have HP := hide' (fun (wr : World) => placesOf_any S R ta tn tc n wr hL.s2 hL.s4 hn ht)
  have r10 := hL.r10
  have S0 := hide' (SMg.of RX.out)
  clear hL hn
  go_enter Tryd.func125, Tryd.ntmps125
  go_upto_region 1 with fail
  go_region_held3 (fun w' => w'.cell? ⟨w.heap.size, 0, none⟩ = some (.int .i64 2) ∧ w'.cell? ⟨w.heap.size, 1, none⟩ = some (.int .i64 0) ∧ w'.cell? ⟨w.heap.size, 2, none⟩ = some (.int .i64 0) ∧ w'.cell? ⟨w.heap.size, 3, none⟩ = some (.int .i64 (S : Int)) ∧ w'.cell? ⟨w.heap.size, 4, none⟩ = some (.int .i64 (R : Int)) ∧ w'.cell? ⟨w.heap.size, 5, none⟩ = some (.slice ta tn tc) ∧ w'.cell? ⟨w.heap.size, 6, none⟩ = some (.string ⟨#[]⟩)) (first | exact S0.out | exact S2.out | exact SMg.stored R2.out _ _ _ _)
    ((go_at_call 169; refine (HP.out _).mono ?_; rintro e w2 ⟨rfl, b2⟩; have B2 := hide' b2; have R2 := hide' (RX.out.next b2); have S2 := hide' (SMg.of R2.out); clear b2; have hb := B2.out.block (w.heap.size + 1) (show w.heap.size + 1 < w1.heap.size by omega); have z0 := (World.cell?_of_block (w := w1) (a := ⟨w.heap.size + 1, 0, none⟩) hb).trans ZC0.out; have z1 := (World.cell?_of_block (w := w1) (a := ⟨w.heap.size + 1, 1, none⟩) hb).trans ZC1.out; have z2 := (World.cell?_of_block (w := w1) (a := ⟨w.heap.size + 1, 2, none⟩) hb).trans ZC2.out; have z3 := (World.cell?_of_block (w := w1) (a := ⟨w.heap.size + 1, 3, none⟩) hb).trans ZC3.out; have f0 := (World.frozen?_of_block (w := w1) (a := ⟨w.heap.size + 1, 0, none⟩) hb).trans (ZF.out 0); have f1 := (World.frozen?_of_block (w := w1) (a := ⟨w.heap.size + 1, 1, none⟩) hb).trans (ZF.out 1); have f2 := (World.frozen?_of_block (w := w1) (a := ⟨w.heap.size + 1, 2, none⟩) hb).trans (ZF.out 2); have f3 := (World.frozen?_of_block (w := w1) (a := ⟨w.heap.size + 1, 3, none⟩) hb).trans (ZF.out 3); clear hb))
  have WR : IntKind.i64.wrap (2 * (R : Int)) = 2 * (R : Int) := by simp [IntKind.wrap, IntKind.bits, IntKind.signed]; omega
  have BF := hide' (below4 (p := w.heap.size + 1) (BB.out.drew.trans (B2.out.mono (by show w.heap.size ≤ w1.heap.size; omega))) (by omega) (.int .i64 (S : Int)) (.int .i64 (2 * (R : Int))) (.int .i64 (n : Int)) (.slice ta tn tc))
  obtain ⟨W, hW⟩ : ∃ W, W = ((((w2.setCell ⟨w.heap.size + 1, 0, none⟩ (.int .i64 (S : Int))).setCell ⟨w.heap.size + 1, 1, none⟩ (.int .i64 (2 * (R : Int)))).setCell ⟨w.heap.size + 1, 2, none⟩ (.int .i64 (n : Int))).setCell ⟨w.heap.size + 1, 3, none⟩ (.slice ta tn tc)) := ⟨_, rfl⟩
  obtain ⟨g0, g1, g2, g3⟩ := stored4 z0 z1 z2 z3 _ _ _ _ hW
  rw [← hW] at BF
  simp only [WR]
  rw [← hW]
  clear z0 z1 z2 z3
  go_wp2
  refine bodyPost_ret (v := .agg #[.int .i64 (S : Int), .int .i64 (2 * (R : Int)), .int .i64 (n : Int), .slice ta tn tc]) (by simp [results, Tryd.results125, go_sem, g0, g1, g2, g3]) rfl ?_
  exact ⟨rfl, BF.out⟩
end Go.Proofs.YtljdidimoagnhaaDoor

