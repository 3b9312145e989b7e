/-
  What the last text of this claim leans on, part 28: Li6, Li8.
-/
import Derived.Test.YtljdidimoagnhaaDoorJu27
import Derived.Test.YtljdidimoagnhaaDoorJu11
namespace Go.Proofs.YtljdidimoagnhaaDoor
open Go.RowKit
set_option linter.unusedVariables false

theorem not_cellsOk {S : Nat} {ws : List Int} {k : Nat} (hk : k < ws.length) (h : ws.getD k 0 < 0 ∨ (S : Int) ≤ ws.getD k 0) : ¬ cellsOk S ws := fun q => by
  have := cellsOk_at q hk
  omega
theorem is_cellsOk {S : Nat} {ws : List Int} (h : ∀ j, j < ws.length → 0 ≤ ws.getD j 0 ∧ ws.getD j 0 < (S : Int)) : cellsOk S ws := fun x hx => by
  obtain ⟨k, hk, rfl⟩ := List.getElem_of_mem hx
  have := h k hk
  simpa [List.getD, hk] using this

set_option maxHeartbeats 1600000 in
theorem lineCheck_line (S R : Nat) (T : List Int) (a : Option Addr) (n c : Nat) (ws : List Int) (wa : Option Addr) (wn wc : Nat) (w : World) (hL : LineOk S R T) (hT : ArgP w T a n c) (hW : ArgP w ws wa wn wc) :
    Calls Tryd.prog 113 #[.agg #[.int .i64 2, .int .i64 0, .int .i64 0, .int .i64 (S : Int), .int .i64 (R : Int), .slice a n c, .string ⟨#[]⟩], .slice wa wn wc] w fun e w' => e = .returned (errOf (wordE S ws)) ∧ Below w.heap.size w w' := by
  obtain ⟨w1, hw1⟩ : ∃ w1, w.alloc (.cells #[.int .i64 2, .int .i64 0, .int .i64 0, .int .i64 (S : Int), .int .i64 (R : Int), .slice a n c, .string ⟨#[]⟩] 24) = w1 := ⟨_, rfl⟩
  have RX := hide' (show RB w.heap.size S R (.slice a n c) w1 by rw [← hw1]; exact RB.new w S R _ _)
  have AT := hide' (show ArgP w1 T a n c by rw [← hw1]; exact hT.alloc _)
  have AW := hide' (show ArgP w1 ws wa wn wc by rw [← hw1]; exact hW.alloc _)
  have BB := hide' (show Below w.heap.size w w1 by rw [← hw1]; exact (Below.refl _ _).alloc (Nat.le_refl _) _)
  have HL := hide' hL
  have WL := hide' hW.len
  have hmx := hW.max
  have s4 := hL.s4
  unfold maxLen at hmx
  clear hT hL hW
  obtain ⟨x0, x1, x2, x3, x4, x5, x6⟩ := RX.out
  go_enter Tryd.func113, Tryd.ntmps113
  go_wp2_with fail
  refine (checkRule_line S R T a n c _ HL.out AT.out).mono ?_
  rintro e w2 ⟨rfl, b2⟩
  have B2 := hide' (BB.out.trans (b2.mono BB.out.size))
  have AW2 := hide' (AW.out.below b2)
  clear x0 x1 x2 x3 x4 x5 x6 hw1
  obtain ⟨x0, x1, x2, x3, x4, x5, x6⟩ := RX.out.next b2
  clear b2
  by_cases hf : (1000 : Int) < (wn : Int)
  · have E := hide' (wordE_full (S := S) (ws := ws) (by have := WL.out; omega))
    go_wp2
    go_ret
    exact ⟨by rw [E.out]; rfl, B2.out⟩
  · have hle : ¬ 1000 < ws.length := by have := WL.out; omega
    have EO := hide' (wordE_ok (S := S) hle)
    have EB := hide' (wordE_bad (S := S) hle)
    clear hle
    go_wp2
    go_loop [19] (fun kv => ∃ k : Nat, kv = .int .i64 (k : Int) ∧ k ≤ wn ∧ Hid (∀ j, j < k → 0 ≤ ws.getD j 0 ∧ ws.getD j 0 < (S : Int))) (fun kv => wn - (intOf kv).toNat)
    case atStart => exact ⟨0, rfl, by omega, fun j hj => by omega⟩
    case round =>
      obtain ⟨k, rfl, hk, HK⟩ := hrel
      by_cases d : (k : Int) < (wn : Int)
      · obtain ⟨g, off, rfl, hc⟩ := AW2.out.at (k := k) (by omega)
        obtain ⟨x, hx⟩ : ∃ x, ws.getD k 0 = x := ⟨_, rfl⟩
        rw [hx] at hc
        have HX := hide' hx
        clear hx
        by_cases d1 : x < 0
        · have F := hide' (EB.out (not_cellsOk (k := k) (by have := WL.out; omega) (by rw [HX.out]; exact Or.inl d1)))
          go_wp2
          go_ret
          exact ⟨by rw [F.out]; rfl, B2.out⟩
        · skip
          by_cases d2 : (S : Int) ≤ x
          · have F := hide' (EB.out (not_cellsOk (k := k) (by have := WL.out; omega) (by rw [HX.out]; exact Or.inr d2)))
            go_wp2
            go_ret
            exact ⟨by rw [F.out]; rfl, B2.out⟩
          · go_wp2
            refine ⟨⟨k + 1, by go_num, by omega, fun j hj => ?_⟩, by simp [intOf]; omega⟩
            by_cases ej : j = k
            · subst ej; rw [HX.out]; omega
            · exact HK.out j (by omega)
      · have F := hide' (EO.out (is_cellsOk fun j hj => HK.out j (by have := WL.out; omega)))
        go_wp2
        go_ret
        exact ⟨by rw [F.out]; rfl, B2.out⟩

set_option maxHeartbeats 1600000 in
theorem lineFault_line (S R : Nat) (T : List Int) (a : Option Addr) (n c : Nat) (ws : List Int) (wa : Option Addr) (wn wc : Nat) (w : World) (hL : LineOk S R T) (hT : ArgP w T a n c) (hW : ArgP w ws wa wn wc) :
    Calls Tryd.prog 29 #[.agg #[.int .i64 2, .int .i64 0, .int .i64 0, .int .i64 (S : Int), .int .i64 (R : Int), .slice a n c, .string ⟨#[]⟩], .slice wa wn wc] w fun e w' => e = .returned (.int .i64 ((wordE S ws : Nat) : Int)) ∧ Below w.heap.size w w' := by
  obtain ⟨w1, hw1⟩ : ∃ w1, w.alloc (.cells #[.int .i64 2, .int .i64 0, .int .i64 0, .int .i64 (S : Int), .int .i64 (R : Int), .slice a n c, .string ⟨#[]⟩] 24) = w1 := ⟨_, rfl⟩
  have RX := hide' (show RB w.heap.size S R (.slice a n c) w1 by rw [← hw1]; exact RB.new w S R _ _)
  have AT := hide' (show ArgP w1 T a n c by rw [← hw1]; exact hT.alloc _)
  have AW := hide' (show ArgP w1 ws wa wn wc by rw [← hw1]; exact hW.alloc _)
  have BB := hide' (show Below w.heap.size w w1 by rw [← hw1]; exact (Below.refl _ _).alloc (Nat.le_refl _) _)
  have HL := hide' hL
  have WL := hide' hW.len
  have hmx := hW.max
  have s4 := hL.s4
  unfold maxLen at hmx
  clear hT hL hW
  obtain ⟨x0, x1, x2, x3, x4, x5, x6⟩ := RX.out
  go_enter Tryd.func29, Tryd.ntmps29
  go_wp2_with fail
  refine (refFault_line S R T a n c _ HL.out AT.out).mono ?_
  rintro e w2 ⟨rfl, b2⟩
  have B2 := hide' (BB.out.trans (b2.mono BB.out.size))
  have AW2 := hide' (AW.out.below b2)
  clear x0 x1 x2 x3 x4 x5 x6 hw1
  obtain ⟨x0, x1, x2, x3, x4, x5, x6⟩ := RX.out.next b2
  clear b2
  by_cases hf : (1000 : Int) < (wn : Int)
  · have E := hide' (wordE_full (S := S) (ws := ws) (by have := WL.out; omega))
    go_wp2
    go_ret
    exact ⟨by rw [E.out]; rfl, B2.out⟩
  · have hle : ¬ 1000 < ws.length := by have := WL.out; omega
    have EO := hide' (wordE_ok (S := S) hle)
    have EB := hide' (wordE_bad (S := S) hle)
    clear hle
    go_wp2
    go_loopw [6] (fun kv wr => ∃ k m : Nat, kv = .int .i64 (k : Int) ∧ k ≤ wn ∧ wr = w2.drewN m ∧ Hid (∀ j, j < k → 0 ≤ ws.getD j 0 ∧ ws.getD j 0 < (S : Int))) (fun kv _ => wn - (intOf kv).toNat)
    case atStart => exact ⟨0, 0, rfl, by omega, rfl, fun j hj => by omega⟩
    case round =>
      obtain ⟨k, m, rfl, hk, rfl, HK⟩ := hrel
      by_cases d : (k : Int) < (wn : Int)
      · obtain ⟨g, off, rfl, hc⟩ := AW2.out.at (k := k) (by omega)
        obtain ⟨x, hx⟩ : ∃ x, ws.getD k 0 = x := ⟨_, rfl⟩
        rw [hx] at hc
        have HX := hide' hx
        clear hx
        by_cases d1 : x < 0
        · have F := hide' (EB.out (not_cellsOk (k := k) (by have := WL.out; omega) (by rw [HX.out]; exact Or.inl d1)))
          have d1b : decide (x < 0) = true := by simp; exact d1
          go_wp2
          go_quiet (fail)
          go_wp2
          go_ret
          exact ⟨by rw [F.out]; rfl, below_drewN (below_drewN B2.out _) _⟩
        · have d1b : decide (x < 0) = false := by simp; omega
          by_cases d2 : (S : Int) ≤ x
          · have F := hide' (EB.out (not_cellsOk (k := k) (by have := WL.out; omega) (by rw [HX.out]; exact Or.inr d2)))
            go_wp2
            go_quiet (fail)
            go_wp2
            go_ret
            exact ⟨by rw [F.out]; rfl, below_drewN (below_drewN B2.out _) _⟩
          · go_wp2
            go_quiet (fail)
            go_wp2
            refine ⟨⟨k + 1, m + nq, by go_num, by omega, by simp, fun j hj => ?_⟩, by simp [intOf]; omega⟩
            by_cases ej : j = k
            · subst ej; rw [HX.out]; omega
            · exact HK.out j (by omega)
      · have F := hide' (EO.out (is_cellsOk fun j hj => HK.out j (by have := WL.out; omega)))
        go_wp2
        go_ret
        exact ⟨by rw [F.out]; rfl, below_drewN B2.out _⟩
end Go.Proofs.YtljdidimoagnhaaDoor

namespace Go.Proofs.YtljdidimoagnhaaDoor
open Go.RowKit
set_option linter.unusedVariables false

set_option maxRecDepth 100000 in
set_option maxHeartbeats 1600000 in
theorem layOut_none (R : Nat) (v : Value) (w : World) :
    Calls Tryd.prog 167 #[.slice none 0 0, v, .int .i64 (R : Int)] w fun e w' => e = .returned (.tuple #[]) ∧ w' = w := by
  go_enter Tryd.func167, Tryd.ntmps167
  go_wp2
  refine bodyPost_ret (v := .tuple #[]) (by simp [results, Tryd.results167, go_sem]) rfl ⟨rfl, rfl⟩
theorem ST.below {w w' : World} {pr pw gw S R N : Nat} {T : List Int} {ta : Option Addr} {tn tc : Nat} {ws : List Int} (h : ST w pr pw gw S R N T ta tn tc ws) (hb : Below w.heap.size w w') : ST w' pr pw gw S R N T ta tn tc ws :=
  ⟨h.rb.next hb, (World.cell?_of_block (w := w) (a := ⟨pw, 0, none⟩) (hb.block pw h.wl)).trans h.wb, Nat.lt_of_lt_of_le h.wl hb.size, h.cw.below hb, h.wn, h.ap.below hb, h.ne1, h.ne2, h.ne3⟩

set_option maxRecDepth 100000 in
set_option maxHeartbeats 1600000 in
theorem step_none (S R : Nat) (T : List Int) (ta : Option Addr) (tn tc pr pw gw : Nat) (w : World)
    (hL : LineOk S R T) (hS : ST w pr pw gw S R (2 * R) T ta tn tc (List.replicate (2 * R) 0)) :
    Calls Tryd.prog 166 #[.slice none 0 0, .pointer (some ⟨pw, 0, none⟩), .pointer (some ⟨pr, 0, none⟩)] w fun e w' => e = .returned (.tuple #[]) ∧ ST w' pr pw gw S R (2 * R) T ta tn tc (List.replicate (2 * R) 0) ∧ Below w.heap.size w w' := by
  have HS := hide' hS
  have HL := hide' hL
  have r10 := hL.r10
  have HF := hide' (show ArgP w (List.replicate (2 * R) 0) (some ⟨gw, 0, none⟩) (2 * R) (2 * R) from hS.cw.argP (by simp) (by unfold maxLen; omega))
  have HZ := hide' (zeros_ok S (2 * R) hL.s2)
  obtain ⟨x0, x1, x2, x3, x4, x5, x6⟩ := hS.rb
  have y0 := hS.wb
  clear hS hL
  rcases Nat.eq_zero_or_pos R with r0 | r0
  · subst r0
    go_enter Tryd.func166, Tryd.ntmps166
    go_wp2_with fail
    refine (layOut_none 0 _ _).mono ?_
    rintro e w2 ⟨rfl, rfl⟩
    go_wp2_with fail
    refine (shorten_none0 S T ta tn tc _ _ HL.out HS.out.ap).mono ?_
    rintro e w3 ⟨rfl, b3⟩
    have S3 := hide' (HS.out.below b3)
    have B3 := hide' b3
    clear b3
    go_wp2
    go_end0
    exact ⟨rfl, S3.out, B3.out⟩
  · go_enter Tryd.func166, Tryd.ntmps166
    go_wp2_with fail
    refine (layOut_none R _ _).mono ?_
    rintro e w2 ⟨rfl, rfl⟩
    go_wp2_with fail
    obtain ⟨fc, hfc⟩ : ∃ fc, 2 * R = fc + 1 := ⟨2 * R - 1, by omega⟩
    have K := shorten_none S R T ta tn tc (List.replicate (2 * R) 0) (some ⟨gw, 0, none⟩) fc _ HL.out HS.out.ap (by rw [← hfc]; exact HF.out) (by omega) (by omega) HZ.out
    rw [← hfc] at K
    refine K.mono ?_
    clear K hfc
    rintro e w3 ⟨rfl, b3⟩
    have S3 := hide' (HS.out.below b3)
    have B3 := hide' b3
    clear b3
    go_wp2
    go_end0
    exact ⟨rfl, S3.out, B3.out⟩

set_option maxRecDepth 100000 in
set_option maxHeartbeats 1600000 in
theorem applied_pos (S R : Nat) (T : List Int) (ta : Option Addr) (tn tc : Nat) (ws : List Int) (wa : Option Addr) (wn wc m : Nat) (w : World)
    (hL : LineOk S R T) (hT : ArgP w T ta tn tc) (hW : ArgP w ws wa wn wc) (hwc : wn ≤ wc) (hcm : wc ≤ maxLen) (hok : cellsOk S ws) (hm : wn = m + 2 * R) (h0 : 0 < m) (hm1 : m ≤ 1100) :
    Calls Tryd.prog 114 #[.agg #[.int .i64 2, .int .i64 0, .int .i64 0, .int .i64 (S : Int), .int .i64 (R : Int), .slice ta tn tc, .string ⟨#[]⟩], .slice wa wn wc] w fun e w' => ∃ g, e = .returned (.slice (some ⟨g, 0, none⟩) m m) ∧ w.heap.size ≤ g ∧ Cel w' g (applyL S R T ws) ∧ Below w.heap.size w w' := by
  obtain ⟨w1, hw1⟩ : ∃ w1, w.alloc (.cells #[.int .i64 2, .int .i64 0, .int .i64 0, .int .i64 (S : Int), .int .i64 (R : Int), .slice ta tn tc, .string ⟨#[]⟩] 24) = w1 := ⟨_, rfl⟩
  have z1 : w1.heap.size = w.heap.size + 1 := by rw [← hw1]; simp
  have BB := hide' (show Below w.heap.size w w1 by rw [← hw1]; exact (Below.refl _ _).alloc (Nat.le_refl _) _)
  obtain ⟨w2, hw2⟩ : ∃ w2, w1.alloc (.cells (madeCells #[.int .i64 0] m) 3) = w2 := ⟨_, rfl⟩
  have r10 := hL.r10
  have hmk := run_make_row' (P := Tryd.prog) 22 3 (.int .i64 0) 8 Tryd.underlying22 info_int rfl .i64 .i64 m (by omega) (by omega) w1
  have TB := hide' (hT.blk (by have := hT.len; have := hL.pos; omega))
  have WB := hide' (hW.blk (by omega))
  have RX := hide' (show RB w.heap.size S R (.slice ta tn tc) w1 by rw [← hw1]; exact RB.new w S R _ _)
  have B2 := hide' (show Below w1.heap.size w1 w2 by rw [← hw2]; exact (Below.refl _ _).alloc (Nat.le_refl _) _)
  have AT := hide' ((hT.below BB.out).below B2.out)
  have AW := hide' ((hW.below BB.out).below B2.out)
  have CM := hide' (show Cel w2 (w.heap.size + 1) (List.replicate m 0) by rw [← hw2, ← z1]; exact Cel.made w1 m _)
  have HL := hide' hL
  have HM := hide' hm
  have HO := hide' hok
  have q1 : (wn : Int) - 2 * (R : Int) = (m : Int) := by omega
  have hmx := hW.max
  unfold maxLen at hmx
  rw [hw2, z1] at hmk
  clear hT hW hL hok hw2 hm
  obtain ⟨x0, x1, x2, x3, x4, x5, x6⟩ := RX.out
  obtain ⟨y0, y1, y2, y3, y4, y5, y6⟩ := RX.out.next B2.out
  go_enter Tryd.func114, Tryd.ntmps114
  go_wp2_with fail
  clear hw1
  refine (shorten_pos S R T ta tn tc ws wa wn wc (w.heap.size + 1) m m (List.replicate m 0) _ HL.out AT.out AW.out (by omega) hwc hcm HO.out CM.out (by simp) HM.out hm1 (fun g off e => by have := TB.out g off e; omega) (fun g off e => by have := WB.out g off e; omega)).mono ?_
  rintro e w3 ⟨rfl, c3, r3⟩
  have C3 := hide' c3
  have s2 := B2.out.size
  have B3 := hide' (show Below w.heap.size w w3 from (BB.out.trans (B2.out.mono (by omega))).trans (r3.below (by omega) (by omega)))
  clear c3 r3
  go_wp2
  go_ret
  exact ⟨w.heap.size + 1, rfl, by omega, C3.out, B3.out⟩

set_option maxHeartbeats 800000 in
theorem applied_none (S R : Nat) (ta : Option Addr) (tn tc : Nat) (wa : Option Addr) (wn wc : Nat) (w : World) (hR : R ≤ 10) (hm : wn ≤ 2 * R) :
    Calls Tryd.prog 114 #[.agg #[.int .i64 2, .int .i64 0, .int .i64 0, .int .i64 (S : Int), .int .i64 (R : Int), .slice ta tn tc, .string ⟨#[]⟩], .slice wa wn wc] w fun e w' => e = .returned (.slice none 0 0) ∧ Below w.heap.size w w' := by
  have q1 : (wn : Int) - 2 * (R : Int) ≤ 0 := by omega
  go_enter Tryd.func114, Tryd.ntmps114
  go_wp2
  go_ret
  exact ⟨rfl, (Below.refl _ _).alloc (Nat.le_refl _) _⟩
end Go.Proofs.YtljdidimoagnhaaDoor

