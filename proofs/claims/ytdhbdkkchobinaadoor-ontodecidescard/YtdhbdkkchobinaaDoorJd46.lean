/-
  What the last text of this claim leans on, part 46: Ok2.
-/
import Derived.Test.YtdhbdkkchobinaaDoorJd42
namespace Go.Proofs.YtdhbdkkchobinaaDoor
open Go.RowKit
set_option linter.unusedVariables false

set_option maxRecDepth 100000 in
set_option maxHeartbeats 12800000 in
theorem refPre_any (S R n : Nat) (T : List Int) (ta : Option Addr) (tn tc : Nat) (w : World) (hL : LineOk S R T) (hT : ArgP w T ta tn tc) (hn : S ^ (2 * R) = n) (hn16 : n ≤ 16) :
    Calls Tryd.prog 67 #[.agg #[.int .i64 2, .int .i64 0, .int .i64 0, .int .i64 (S : Int), .int .i64 (R : Int), .slice ta tn tc, .string ⟨#[]⟩]] w (PreRefPost S n T w) := by
  have hmf : ∀ (fn : Fn) (first cap : Array Value) (w : World), (Instr.makeFunc fn first cap).run Tryd.prog w = .ok (.func fn first cap) w := fun _ _ _ _ => rfl
  obtain ⟨g1, htn, hn0⟩ := hL.graph hT.len hn
  have hta := hT.blk (by have := hT.len; have := hL.pos; omega)
  have hpl : plc S R = n := by rw [plc_end (by omega), hn]
  obtain ⟨PP, hPP⟩ : ∃ PP, PreRefPost S n T w = PP := ⟨_, rfl⟩
  have HPP := hide' hPP
  rw [hPP]
  obtain ⟨N, hN⟩ : ∃ N, n * n = N := ⟨_, rfl⟩
  have HN := hide' hN
  have n256 : N ≤ 256 := by rw [← hN]; exact Nat.mul_le_mul hn16 hn16
  have q1 : (n : Int) * (n : Int) = (N : Int) := by rw [← hN]; simp
  have hmk := run_make_row' (P := Tryd.prog) 155 4 (.bool false) 1 Tryd.underlying155 info_bool rfl .i64 .i64 N (by omega) (by omega)
  obtain ⟨w1, hw1⟩ : ∃ w1, w.alloc (.cells #[.int .i64 2, .int .i64 0, .int .i64 0, .int .i64 (S : Int), .int .i64 (R : Int), .slice ta tn tc, .string ⟨#[]⟩] 24) = w1 := ⟨_, rfl⟩
  have BB := hide' (show Below w.heap.size w w1 by rw [← hw1]; exact (Below.refl _ _).alloc (Nat.le_refl _) _)
  have RX := hide' (show Blk w1 w.heap.size #[.int .i64 2, .int .i64 0, .int .i64 0, .int .i64 (S : Int), .int .i64 (R : Int), .slice ta tn tc, .string ⟨#[]⟩] 24 by rw [← hw1]; exact Blk.new _ _ _)
  have RX0 := hide' (show RB w.heap.size S R (.slice ta tn tc) w1 by rw [← hw1]; exact RB.new w S R _ _)
  have RBB := hide' (show ∀ X : World, Blk X w.heap.size #[.int .i64 2, .int .i64 0, .int .i64 0, .int .i64 (S : Int), .int .i64 (R : Int), .slice ta tn tc, .string ⟨#[]⟩] 24 → RB w.heap.size S R (.slice ta tn tc) X from fun X h => ⟨h.cell 0, h.cell 1, h.cell 2, h.cell 3, h.cell 4, h.cell 5, h.cell 6⟩)
  have HL := hide' hL
  have HT := hide' hT
  have HTA := hide' hta
  have HTN := hide' htn
  have PL := hide' (fun (W : World) => refPlaces_any S R T ta tn tc W hL)
  rw [hpl] at PL
  clear hL hT hta htn hN hPP hn g1 hpl
  obtain ⟨x0, x1, x2, x3, x4, x5, x6⟩ := RX0.out
  go_enter Tryd.func67, Tryd.ntmps67
  go_wp2_with fail
  refine (PL.out _).mono ?_
  rintro e w2 ⟨rfl, b⟩
  clear hw1
  have C0 := hide' (show Blk w2 w.heap.size #[.int .i64 2, .int .i64 0, .int .i64 0, .int .i64 (S : Int), .int .i64 (R : Int), .slice ta tn tc, .string ⟨#[]⟩] 24 ∧ Below w.heap.size w w2 from ⟨RX.out.of (b.block _ RX.out.lt), BB.out.trans (b.mono BB.out.size)⟩)
  have LTW := hide' (show w.heap.size < w2.heap.size from C0.out.1.lt)
  clear b x0 x1 x2 x3 x4 x5 x6 RX RX0 BB PL
  obtain ⟨w3, hw3⟩ : ∃ w3, (w2.alloc (.cells (madeCells #[.bool false] N) 4)).alloc (.cells #[.slice (some ⟨w2.heap.size, 0, none⟩) N N] 155) = w3 := ⟨_, rfl⟩
  have G0 := hide' (show GJ w3 S n 0 T (w2.heap.size + 1) w2.heap.size w2.heap.size 0 (List.replicate N false) ∧ Below w2.heap.size w2 w3 from by
    rw [← hw3]
    refine ⟨⟨?_, ?_, by rw [HN.out]; simp, fun t ht => ?_, Nat.le_refl _⟩, ?_⟩
    · rw [HN.out]; exact blk_new_at (by simp)
    · have := (Blk.new w2 (madeCells #[.bool false] N) 4).alloc (.cells #[.slice (some ⟨w2.heap.size, 0, none⟩) N N] 155)
      rw [show ((List.replicate N false).map Value.bool).toArray = madeCells #[.bool false] N by
        apply Array.toList_inj.1
        rw [toList_madeCells_one]
        simp]
      exact this
    · constructor
      · intro h
        rw [List.getD_eq_getElem?_getD, List.getElem?_replicate] at h
        split at h <;> simp at h
      · rintro ⟨p', c, h, _⟩; omega
    · exact ((Below.refl _ _).alloc (Nat.le_refl _) _).alloc (by simp) _)
  obtain ⟨gf, hgf⟩ : ∃ gf, w2.heap.size = gf := ⟨_, rfl⟩
  rw [hgf] at G0 LTW hw3
  have C3 := hide' (show Blk w3 w.heap.size #[.int .i64 2, .int .i64 0, .int .i64 0, .int .i64 (S : Int), .int .i64 (R : Int), .slice ta tn tc, .string ⟨#[]⟩] 24 ∧ Below w.heap.size w w3 from ⟨C0.out.1.of (G0.out.2.block _ LTW.out), C0.out.2.trans (G0.out.2.mono (Nat.le_of_lt LTW.out))⟩)
  have S3 := hide' (show gf ≤ w3.heap.size by have := G0.out.2.size; omega)
  go_wp2
  try rw [hgf]
  try rw [hw3]
  clear hw3 hgf
  go_loopw [5] (fun pv wr => ∃ p : Nat, pv = .int .i64 (p : Int) ∧ p ≤ n ∧ Hid ((∃ fl, GJ wr S n p T (gf + 1) gf gf 0 fl) ∧ Blk wr w.heap.size #[.int .i64 2, .int .i64 0, .int .i64 0, .int .i64 (S : Int), .int .i64 (R : Int), .slice ta tn tc, .string ⟨#[]⟩] 24 ∧ Below w.heap.size w wr ∧ gf ≤ wr.heap.size)) (fun pv _ => n - (intOf pv).toNat)
  case atStart => exact ⟨0, rfl, by omega, hide' ⟨⟨_, G0.out.1⟩, C3.out.1, C3.out.2, S3.out⟩⟩
  case round =>
    clear G0 C0 C3 S3
    obtain ⟨p, rfl, hp, H⟩ := hrel
    obtain ⟨x0, x1, x2, x3, x4, x5, x6⟩ := RBB.out _ H.out.2.1
    by_cases d : (p : Int) < (n : Int)
    · obtain ⟨fl, gj⟩ := H.out.1
      have PO := hide' (pairs_pre HL.out (HT.out.below H.out.2.2.1) (fun g off e => Nat.lt_trans (HTA.out g off e) LTW.out) H.out.2.2.2 hn0 hn16 HTN.out (show p < n by omega) gj)
      obtain ⟨pn, hpn⟩ : ∃ y, p * n = y := ⟨_, rfl⟩
      obtain ⟨k, hk⟩ : ∃ y, pn + p = y := ⟨_, rfl⟩
      have m1 : (p : Int) * (n : Int) = (pn : Int) := by rw [← hpn]; simp
      have m2 : (pn : Int) + (p : Int) = (k : Int) := by omega
      have pl : pn ≤ 256 := by rw [← hpn]; exact Nat.mul_le_mul (show p ≤ 16 by omega) hn16
      rw [hpn, hk] at PO
      clear hpn hk gj
      go_wp2_with fail
      refine (show Calls Tryd.prog _ _ _ _ from PO.out).mono ?_
      rintro e w4 ⟨rfl, ⟨fl', g4⟩, k4⟩
      have G4 := hide' g4.over
      have K4 := hide' k4
      have lw := LTW.out
      have X4 := hide' (k4.blk H.out.2.1 (by omega) (by omega) (by decide))
      clear g4 k4 x0 x1 x2 x3 x4 x5 x6
      go_wp2
      exact ⟨⟨p + 1, by go_num, by omega, hide' ⟨⟨_, G4.out⟩, X4.out, H.out.2.2.1.trans (K4.out.bl.mono (Nat.le_of_lt LTW.out)), Nat.le_trans H.out.2.2.2 K4.out.bl.size⟩⟩, by simp [intOf]; omega⟩
    · obtain rfl : p = n := by omega
      obtain ⟨fl, gj⟩ := H.out.1
      have f0 : wr.cell? ⟨gf + 1, 0, none⟩ = some (.slice (some ⟨gf, 0, none⟩) N N) := by rw [← HN.out]; exact gj.fb.cell 0
      have RE := hide' (reach_any S R p T ta tn tc gf fl wr HL.out (HT.out.below H.out.2.2.1) (fun g off e => Nat.lt_of_lt_of_le (HTA.out g off e) H.out.2.2.1.size) hn0 hn16 HTN.out gj.fc gj.fl_)
      have SPX := hide' gj.sp
      rw [HN.out] at RE
      clear gj d
      go_wp2_with fail
      refine (show Calls Tryd.prog _ _ _ _ from RE.out).mono ?_
      unfold ReachPost
      rintro e w4 ⟨g, il, rfl, ic, il_, hf, hc, ho, b4⟩
      have TWN := hide' (reached_twin hn0 SPX.out hf hc ho)
      have IC := hide' ic
      have IL := hide' (show il.length = N by rw [il_]; exact HN.out)
      have B4 := hide' (H.out.2.2.1.trans (b4.mono H.out.2.2.1.size))
      clear ic il_ hf hc ho b4 x0 x1 x2 x3 x4 x5 x6 f0
      rw [HN.out]
      go_wp2
      go_loop [7] (fun qv => ∃ q : Nat, qv = .int .i64 (q : Int) ∧ q ≤ p ∧ Hid (∀ j, j < q → il.getD (j * p + j) false = false)) (fun qv => p - (intOf qv).toNat)
      case atStart => exact ⟨0, rfl, by omega, fun j hj => by omega⟩
      case round =>
        obtain ⟨q, rfl, hq, HQ⟩ := hrel
        by_cases d : (q : Int) < (p : Int)
        · obtain ⟨pn, hpn⟩ : ∃ y, q * p = y := ⟨_, rfl⟩
          obtain ⟨k, hk⟩ : ∃ y, pn + q = y := ⟨_, rfl⟩
          have m1 : (q : Int) * (p : Int) = (pn : Int) := by rw [← hpn]; simp
          have m2 : (pn : Int) + (q : Int) = (k : Int) := by omega
          have pl : pn ≤ 256 := by rw [← hpn]; exact Nat.mul_le_mul (show q ≤ 16 by omega) hn16
          have kN : k < N := by rw [← hk, ← hpn, ← HN.out]; exact code_lt (by omega) (by omega)
          have ck : w4.cell? ⟨g, k, none⟩ = some (.bool (il.getD k false)) := by rw [IC.out.cell]; exact bools_at il k (by rw [IL.out]; exact kN)
          have EK := hide' (show il.getD (q * p + q) false = il.getD k false by rw [hpn, hk])
          cases hb : il.getD k false with
          | true =>
            rw [hb] at ck
            have TT := hide' (TWN.out.2 ⟨q, by omega, by rw [EK.out]; exact hb⟩)
            clear hpn hk hb
            go_wp2
            rw [← HPP.out]
            exact ⟨Or.inl ⟨rfl, TT.out⟩, B4.out⟩
          | false =>
            rw [hb] at ck
            have NX := hide' (show ∀ j, j < q + 1 → il.getD (j * p + j) false = false from fun j hj => by
              by_cases e : j = q
              · subst e; rw [EK.out]; exact hb
              · exact HQ.out j (by omega))
            clear hpn hk hb
            go_wp2
            exact ⟨⟨q + 1, by go_num, by omega, NX⟩, by simp [intOf]; omega⟩
        · have NT := hide' (show ¬ TwinAt S p T from fun h => by
            obtain ⟨j, hj, h1⟩ := TWN.out.1 h
            rw [HQ.out j (by omega)] at h1
            cases h1)
          go_wp2
          rw [← HPP.out]
          exact ⟨Or.inr ⟨rfl, NT.out⟩, B4.out⟩
end Go.Proofs.YtdhbdkkchobinaaDoor

