/-
  What the last text of this claim leans on, part 35: Ry4, Ry2.
-/
import Derived.Test.YtljdidimoagnhaaDoorJc1
import Derived.Test.YtljdidimoagnhaaDoorJc34
namespace Go.Proofs.YtljdidimoagnhaaDoor
open Go.RowKit
set_option linter.unusedVariables false

def StepAns (L : Nat) (xs : List Int) (w : World) (e : Ending) (w' : World) : Prop := ∃ a c, e = .returned (.slice a L c) ∧ ArgP w' xs a L c ∧ Below w.heap.size w w'
def CycleAns (g : Nat → List Int) (w : World) (e : Ending) (w' : World) : Prop :=
  (∃ (b q : Int) (ok : Bool), e = .returned (.tuple #[.int .i64 b, .int .i64 q, .bool ok]) ∧ ((∃ m p, First g m p ∧ m + p ≤ 100000 ∧ b = (m : Int) ∧ q = (p : Int) ∧ ok = true) ∨ ((∀ m p, First g m p → ¬ m + p ≤ 100000) ∧ ok = false))) ∧ Below w.heap.size w w'
theorem Ints_at (L : Nat) (xs ys : List Int) (a b : Option Addr) (c d : Nat) (w : World) (hA : ArgP w xs a L c) (hB : ArgP w ys b L d) (β : Bool) (hβ : decide (xs = ys) = β) :
    Calls Tryd.prog 28 #[.slice a L c, .slice b L d] w fun e w' => e = .returned (.bool β) ∧ Below w.heap.size w w' :=
  (Ints_any xs ys a b L c L d w hA hB).mono fun e w' ⟨h1, q, h2⟩ => ⟨by rw [h1, hβ], by rw [h2]; exact below_drewN (Below.refl _ _) q⟩

set_option maxRecDepth 100000 in
set_option maxHeartbeats 6400000 in
theorem refCycle_any (S R : Nat) (T : List Int) (ta : Option Addr) (tn tc : Nat) (ws : List Int) (wa : Option Addr) (wc : Nat) (w : World)
    (hL : LineOk S R T) (hT : ArgP w T ta tn tc) (hW : ArgP w ws wa ws.length wc) (hok : cellsOk S ws) (hl : ws.length ≤ 1000) :
    Calls Tryd.prog 54 #[.agg #[.int .i64 2, .int .i64 0, .int .i64 0, .int .i64 (S : Int), .int .i64 (R : Int), .slice ta tn tc, .string ⟨#[]⟩], .slice wa ws.length wc, .int .i64 100000] w (CycleAns (fun n => runL S R T n ws) w) := by
  obtain ⟨w1, hw1⟩ : ∃ w1, w.alloc (.cells #[.int .i64 2, .int .i64 0, .int .i64 0, .int .i64 (S : Int), .int .i64 (R : Int), .slice ta tn tc, .string ⟨#[]⟩] 24) = w1 := ⟨_, rfl⟩
  have BB := hide' (show Below w.heap.size w w1 by rw [← hw1]; exact (Below.refl _ _).alloc (Nat.le_refl _) _)
  have RX := hide' (show RB w.heap.size S R (.slice ta tn tc) w1 by rw [← hw1]; exact RB.new w S R _ _)
  have AT := hide' (hT.below BB.out)
  have MK := hide' (runL_makes S R T ws)
  have GO := hide' (fun i => runL_ok (S := (S : Int)) (R := R) (T := T) (xs := ws) (by omega) hL.lenI hL.ok hok i)
  have GL := hide' (fun i => runL_length (S : Int) R T ws i)
  obtain ⟨g, hg⟩ : ∃ g : Nat → List Int, (fun n => runL S R T n ws) = g := ⟨_, rfl⟩
  have G0 := hide' (show g 0 = ws by rw [← hg]; rfl)
  have GS := hide' (fun n => show stepL S R T (g n) = g (n + 1) by rw [← hg]; rfl)
  have GO' := hide' (fun i => show cellsOk S (g i) by rw [← hg]; exact GO.out i)
  have GL' := hide' (fun i => show (g i).length = ws.length by rw [← hg]; exact GL.out i)
  rw [hg] at MK ⊢
  clear hg GO GL
  obtain ⟨L, hLn⟩ : ∃ L, ws.length = L := ⟨_, rfl⟩
  have AW := hide' (show ArgP w1 (g 0) wa L wc by rw [G0.out, ← hLn]; exact hW.below BB.out)
  rw [hLn] at GL' hl ⊢
  have ST := hide' (fun (n : Nat) (a : Option Addr) (c : Nat) (wr : World) (h1 : ArgP wr (g n) a L c) (h2 : Below w1.heap.size w1 wr) => show Calls Tryd.prog 50 #[.agg #[.int .i64 2, .int .i64 0, .int .i64 0, .int .i64 (S : Int), .int .i64 (R : Int), .slice ta tn tc, .string ⟨#[]⟩], .slice a L c] wr (StepAns L (g (n + 1)) wr) by
    have K := refStep_any S R T ta tn tc (g n) a c wr hL (AT.out.below h2) (by rw [GL'.out n]; exact h1) (GO'.out n) (by rw [GL'.out n]; exact hl)
    rw [GL'.out n, GS.out n] at K
    refine K.mono fun e w' ⟨v, e1, t, _, b⟩ => ?_
    obtain ⟨a', c', e2, q⟩ := t.argL (by rw [GL'.out]; unfold maxLen; omega)
    rw [GL'.out] at e2 q
    exact ⟨a', c', by rw [e1, e2], q, b⟩)
  clear hT hW hok hL AT GS GO' GL' G0 hLn
  have C1 := hide' (Below.refl w1.heap.size w1)
  obtain ⟨x0, x1, x2, x3, x4, x5, x6⟩ := RX.out
  go_enter Tryd.func54, Tryd.ntmps54
  go_wp2_with fail
  refine (ST.out 0 _ _ _ AW.out C1.out).mono ?_
  unfold StepAns
  rintro e w2 ⟨a2, c2, rfl, p2, b⟩
  clear x0 x1 x2 x3 x4 x5 x6 hw1
  have C2 := hide' (C1.out.trans b)
  have P2 := hide' p2
  clear b p2 C1
  obtain ⟨x0, x1, x2, x3, x4, x5, x6⟩ := RX.out.next C2.out
  go_wp2_with fail
  refine (ST.out 1 _ _ _ P2.out C2.out).mono ?_
  unfold StepAns
  rintro e w3 ⟨a3, c3, rfl, p3, b⟩
  clear x0 x1 x2 x3 x4 x5 x6
  have C3 := hide' (C2.out.trans (b.mono C2.out.size))
  have P3 := hide' p3
  have Q3 := hide' (P2.out.below b)
  clear b p3 C2 P2
  obtain ⟨β, hβ⟩ : ∃ β, decide (g 1 = g 2) = β := ⟨_, rfl⟩
  have HB := hide' hβ
  clear hβ
  go_wp2_with fail
  refine (Ints_at L (g 1) (g 2) _ _ _ _ _ Q3.out P3.out β HB.out).mono ?_
  rintro e w4 ⟨rfl, b⟩
  have C4 := hide' (C3.out.trans (b.mono C3.out.size))
  have P4 := hide' (P3.out.below b)
  have Q4 := hide' (Q3.out.below b)
  clear b C3 P3 Q3
  go_wp2
  go_loopw [9, 10, 11, 12] (fun sv fv nv bv wr => ∃ (n : Nat) (a : Option Addr) (c : Nat) (a' : Option Addr) (c' : Nat) (β : Bool), sv = .slice a L c ∧ fv = .slice a' L c' ∧ nv = .int .i64 (n : Int) ∧ bv = .bool β ∧ 1 ≤ n ∧ n ≤ 100001 ∧ Hid (decide (g n = g (2 * n)) = β ∧ ArgP wr (g n) a L c ∧ ArgP wr (g (2 * n)) a' L c' ∧ (∀ k, 1 ≤ k → k < n → g k ≠ g (2 * k)) ∧ Below w1.heap.size w1 wr)) (fun _ _ nv _ _ => 100002 - (intOf nv).toNat)
  case atStart => exact ⟨1, a2, c2, a3, c3, β, rfl, rfl, rfl, rfl, by omega, by omega, hide' ⟨HB.out, Q4.out, P4.out, fun k h1 h2 => by omega, C4.out⟩⟩
  case round =>
    clear HB Q4 P4 C4
    obtain ⟨n, a, c, a', c', γ, rfl, rfl, rfl, rfl, n1, n2, HH⟩ := hrel
    have CR := hide' HH.out.2.2.2.2
    obtain ⟨x0, x1, x2, x3, x4, x5, x6⟩ := RX.out.next CR.out
    cases γ with
    | false =>
      by_cases d : (100000 : Int) < (n : Int)
      · have NF := hide' (show ∀ m p, First g m p → ¬ m + p ≤ 100000 by
          intro m p hf hle
          obtain ⟨k, k1, k2, k3, k4⟩ := hf.by_then
          have hm := (hf.meet MK.out k1).2 ⟨k2, k3⟩
          exact HH.out.2.2.2.1 k (by omega) (by omega) hm)
        go_wp2
        go_ret3
        exact ⟨⟨_, _, _, rfl, Or.inr ⟨NF.out, rfl⟩⟩, BB.out.trans (CR.out.mono BB.out.size)⟩
      · go_wp2_with fail
        refine (ST.out n _ _ _ HH.out.2.1 CR.out).mono ?_
        unfold StepAns
        rintro e w5 ⟨a5, c5, rfl, p5, b⟩
        clear x0 x1 x2 x3 x4 x5 x6
        have C5 := hide' (CR.out.trans (b.mono CR.out.size))
        have P5 := hide' p5
        have Q5 := hide' (HH.out.2.2.1.below b)
        clear b p5
        obtain ⟨x0, x1, x2, x3, x4, x5, x6⟩ := RX.out.next C5.out
        go_wp2_with fail
        refine (ST.out (2 * n) _ _ _ Q5.out C5.out).mono ?_
        unfold StepAns
        rintro e w6 ⟨a6, c6, rfl, p6, b⟩
        clear x0 x1 x2 x3 x4 x5 x6
        have C6 := hide' (C5.out.trans (b.mono C5.out.size))
        have P6 := hide' (P5.out.below b)
        have Q6 := hide' p6
        clear b p6 P5 Q5 C5
        obtain ⟨x0, x1, x2, x3, x4, x5, x6⟩ := RX.out.next C6.out
        go_wp2_with fail
        refine (ST.out (2 * n + 1) _ _ _ Q6.out C6.out).mono ?_
        unfold StepAns
        rintro e w7 ⟨a7, c7, rfl, p7, b⟩
        clear x0 x1 x2 x3 x4 x5 x6
        have C7 := hide' (C6.out.trans (b.mono C6.out.size))
        have P7 := hide' (P6.out.below b)
        have Q7 := hide' (show ArgP w7 (g (2 * (n + 1))) a7 L c7 from p7)
        clear b p7 P6 Q6 C6
        obtain ⟨δ, hδ⟩ : ∃ δ, decide (g (n + 1) = g (2 * (n + 1))) = δ := ⟨_, rfl⟩
        have HD := hide' hδ
        clear hδ
        go_wp2_with fail
        refine (Ints_at L (g (n + 1)) (g (2 * (n + 1))) _ _ _ _ _ P7.out Q7.out δ HD.out).mono ?_
        rintro e w8 ⟨rfl, b⟩
        have C8 := hide' (C7.out.trans (b.mono C7.out.size))
        have P8 := hide' (P7.out.below b)
        have Q8 := hide' (Q7.out.below b)
        clear b
        go_wp2
        refine ⟨⟨n + 1, a5, c5, a7, c7, δ, rfl, rfl, by go_num, rfl, by omega, by omega, hide' ⟨HD.out, P8.out, Q8.out, fun k h1 h2 => ?_, C8.out⟩⟩, by simp [intOf]; omega⟩
        rcases Nat.lt_or_ge k n with q | q
        · exact HH.out.2.2.2.1 k h1 q
        · obtain rfl : k = n := by omega
          have := HH.out.1
          simpa using this
    | true =>
      have ME := hide' (show g n = g (2 * n) by have := HH.out.1; simpa using this)
      obtain ⟨m, p, FI, pb⟩ : ∃ m p, Hid (First g m p) ∧ p ≤ 200002 := by
        obtain ⟨m, p, h, hle⟩ := first_of g (2 * n) n (2 * n) (Nat.le_refl _) (by omega) ME.out
        exact ⟨m, p, hide' h, by omega⟩
      have MM := hide' ((FI.out.meet MK.out (by omega)).1 ME.out)
      have FA := hide' HH.out.2.2.1
      have mn : m ≤ n := MM.out.1
      have AW1 := hide' (AW.out.below CR.out)
      obtain ⟨β2, hβ2⟩ : ∃ β2, decide (g 0 = g (2 * n)) = β2 := ⟨_, rfl⟩
      have HB2 := hide' hβ2
      clear hβ2 HH
      go_wp2_with fail
      refine (Ints_at L (g 0) (g (2 * n)) _ _ _ _ _ AW1.out FA.out β2 HB2.out).mono ?_
      rintro e w5 ⟨rfl, b⟩
      have C5 := hide' (CR.out.trans (b.mono CR.out.size))
      have P5 := hide' (AW1.out.below b)
      have Q5 := hide' (FA.out.below b)
      clear b AW1 FA CR x0 x1 x2 x3 x4 x5 x6
      go_wp2
      go_loopw [9, 10, 12, 13] (fun sv fv bv nv wr => ∃ (k : Nat) (a : Option Addr) (c : Nat) (a' : Option Addr) (c' : Nat) (β : Bool), sv = .slice a L c ∧ fv = .slice a' L c' ∧ nv = .int .i64 (k : Int) ∧ bv = .bool β ∧ k ≤ m ∧ Hid (decide (g k = g (2 * n + k)) = β ∧ ArgP wr (g k) a L c ∧ ArgP wr (g (2 * n + k)) a' L c' ∧ Below w1.heap.size w1 wr)) (fun _ _ _ nv _ => m - (intOf nv).toNat)
      case atStart => exact ⟨0, wa, wc, a', c', β2, rfl, rfl, rfl, rfl, by omega, hide' ⟨HB2.out, P5.out, Q5.out, C5.out⟩⟩
      case round =>
        clear HB2 P5 Q5 C5
        obtain ⟨k, b2, d2, b2', d2', γ, rfl, rfl, rfl, rfl, k1, H2⟩ := hrel
        have CR := hide' H2.out.2.2.2
        obtain ⟨x0, x1, x2, x3, x4, x5, x6⟩ := RX.out.next CR.out
        have KM := hide' (FI.out.start MK.out (show 0 < n by omega) MM.out.2 k1)
        cases γ with
        | false =>
          have km : k < m := by
            rcases Nat.lt_or_ge k m with q | q
            · exact q
            · have h1 := KM.out.2 (by omega)
              have h2 := H2.out.1
              simp [h1] at h2
          go_wp2_with fail
          refine (ST.out k _ _ _ H2.out.2.1 CR.out).mono ?_
          unfold StepAns
          rintro e w6 ⟨a6, c6, rfl, p6, b⟩
          clear x0 x1 x2 x3 x4 x5 x6
          have C6 := hide' (CR.out.trans (b.mono CR.out.size))
          have P6 := hide' p6
          have Q6 := hide' (H2.out.2.2.1.below b)
          clear b p6
          obtain ⟨x0, x1, x2, x3, x4, x5, x6⟩ := RX.out.next C6.out
          go_wp2_with fail
          refine (ST.out (2 * n + k) _ _ _ Q6.out C6.out).mono ?_
          unfold StepAns
          rintro e w7 ⟨a7, c7, rfl, p7, b⟩
          clear x0 x1 x2 x3 x4 x5 x6
          have C7 := hide' (C6.out.trans (b.mono C6.out.size))
          have P7 := hide' (P6.out.below b)
          have Q7 := hide' (show ArgP w7 (g (2 * n + (k + 1))) a7 L c7 from p7)
          clear b p7 P6 Q6 C6
          obtain ⟨δ, hδ⟩ : ∃ δ, decide (g (k + 1) = g (2 * n + (k + 1))) = δ := ⟨_, rfl⟩
          have HD := hide' hδ
          clear hδ
          go_wp2_with fail
          refine (Ints_at L (g (k + 1)) (g (2 * n + (k + 1))) _ _ _ _ _ P7.out Q7.out δ HD.out).mono ?_
          rintro e w8 ⟨rfl, b⟩
          have C8 := hide' (C7.out.trans (b.mono C7.out.size))
          have P8 := hide' (P7.out.below b)
          have Q8 := hide' (Q7.out.below b)
          clear b
          go_wp2
          exact ⟨⟨k + 1, a6, c6, a7, c7, δ, rfl, rfl, by go_num, rfl, by omega, hide' ⟨HD.out, P8.out, Q8.out, C8.out⟩⟩, by simp [intOf]; omega⟩
        | true =>
          have KE := hide' (show k = m from KM.out.1 (by have := H2.out.1; simpa using this))
          have SA := hide' (show ArgP wr (g m) b2 L d2 by rw [← KE.out]; exact H2.out.2.1)
          clear H2 KM
          go_wp2_with fail
          refine (ST.out m _ _ _ SA.out CR.out).mono ?_
          unfold StepAns
          rintro e w6 ⟨a6, c6, rfl, p6, b⟩
          clear x0 x1 x2 x3 x4 x5 x6
          have C6 := hide' (CR.out.trans (b.mono CR.out.size))
          have P6 := hide' p6
          have S6 := hide' (SA.out.below b)
          clear b p6 SA CR
          obtain ⟨β3, hβ3⟩ : ∃ β3, decide (g m = g (m + 1)) = β3 := ⟨_, rfl⟩
          have HB3 := hide' hβ3
          clear hβ3
          go_wp2_with fail
          refine (Ints_at L (g m) (g (m + 1)) _ _ _ _ _ S6.out P6.out β3 HB3.out).mono ?_
          rintro e w7 ⟨rfl, b⟩
          have C7 := hide' (C6.out.trans (b.mono C6.out.size))
          have P7 := hide' (P6.out.below b)
          have S7x := hide' (S6.out.below b)
          clear b P6 S6 C6
          have PP := hide' FI.out.pos
          go_wp2
          go_loopw [10, 12, 14] (fun fv bv nv wr => ∃ (t : Nat) (a' : Option Addr) (c' : Nat) (β : Bool), fv = .slice a' L c' ∧ nv = .int .i64 (t : Int) ∧ bv = .bool β ∧ 1 ≤ t ∧ t ≤ p ∧ Hid (decide (g m = g (m + t)) = β ∧ ArgP wr (g m) b2 L d2 ∧ ArgP wr (g (m + t)) a' L c' ∧ Below w1.heap.size w1 wr)) (fun _ _ nv _ => p - (intOf nv).toNat)
          case atStart => exact ⟨1, a6, c6, β3, rfl, rfl, rfl, by omega, PP.out, hide' ⟨HB3.out, S7x.out, P7.out, C7.out⟩⟩
          case round =>
            clear HB3 P7 S7x C7
            obtain ⟨t, b3, d3, γ, rfl, rfl, rfl, t1, t2, H3⟩ := hrel
            have CR := hide' H3.out.2.2.2
            obtain ⟨x0, x1, x2, x3, x4, x5, x6⟩ := RX.out.next CR.out
            have TP := hide' (FI.out.round MK.out (show 0 < t by omega) t2)
            cases γ with
            | false =>
              have tp : t < p := by
                rcases Nat.lt_or_ge t p with q | q
                · exact q
                · have h1 := TP.out.2 (by omega)
                  have h2 := H3.out.1
                  simp [← h1] at h2
              go_wp2_with fail
              refine (ST.out (m + t) _ _ _ H3.out.2.2.1 CR.out).mono ?_
              unfold StepAns
              rintro e w8 ⟨a8, c8, rfl, p8, b⟩
              clear x0 x1 x2 x3 x4 x5 x6
              have C8 := hide' (CR.out.trans (b.mono CR.out.size))
              have P8 := hide' (show ArgP w8 (g (m + (t + 1))) a8 L c8 from p8)
              have S8 := hide' (H3.out.2.1.below b)
              clear b p8
              obtain ⟨δ, hδ⟩ : ∃ δ, decide (g m = g (m + (t + 1))) = δ := ⟨_, rfl⟩
              have HD := hide' hδ
              clear hδ
              go_wp2_with fail
              refine (Ints_at L (g m) (g (m + (t + 1))) _ _ _ _ _ S8.out P8.out δ HD.out).mono ?_
              rintro e w9 ⟨rfl, b⟩
              have C9 := hide' (C8.out.trans (b.mono C8.out.size))
              have P9 := hide' (P8.out.below b)
              have S9 := hide' (S8.out.below b)
              clear b
              go_wp2
              exact ⟨⟨t + 1, a8, c8, δ, rfl, by go_num, rfl, by omega, by omega, hide' ⟨HD.out, S9.out, P9.out, C9.out⟩⟩, by simp [intOf]; omega⟩
            | true =>
              have TE := hide' (show t = p from TP.out.1 (by have := H3.out.1; simpa using this))
              have ONLY := hide' (fun m' p' (h : First g m' p') => FI.out.only h)
              have kb : k ≤ 100001 := by omega
              have tb : t ≤ 200002 := by omega
              by_cases d : (k : Int) + (t : Int) ≤ 100000
              · go_wp2
                go_ret3
                exact ⟨⟨_, _, _, rfl, Or.inl ⟨m, p, FI.out, by have := KE.out; have := TE.out; omega, by rw [KE.out], by rw [TE.out], rfl⟩⟩, BB.out.trans (CR.out.mono BB.out.size)⟩
              · go_wp2
                go_ret3
                exact ⟨⟨_, _, _, rfl, Or.inr ⟨fun m' p' h => by have := ONLY.out m' p' h; have := KE.out; have := TE.out; omega, rfl⟩⟩, BB.out.trans (CR.out.mono BB.out.size)⟩
end Go.Proofs.YtljdidimoagnhaaDoor

namespace Go.Proofs.YtljdidimoagnhaaDoor
set_option linter.unusedVariables false

def digit (xs : List Int) (i : Nat) : Nat := (xs.getD i 0).toNat
def keyAt (xs : List Int) (k : Nat) : Nat := digit xs (4 * k) + 4 * digit xs (4 * k + 1) + 16 * digit xs (4 * k + 2) + 64 * digit xs (4 * k + 3)
def keyB (xs : List Int) : List UInt8 := (List.range ((xs.length + 3) / 4)).map fun k => UInt8.ofNat (keyAt xs k)
theorem digit_lt {S : Nat} {xs : List Int} (hS : S ≤ 4) (h : cellsOk S xs) (i : Nat) : digit xs i < 4 := by
  unfold digit
  by_cases hi : i < xs.length
  · have := cellsOk_at h hi
    omega
  · rw [List.getD_eq_getElem?_getD, List.getElem?_eq_none (by omega)]
    decide
theorem keyAt_lt {S : Nat} {xs : List Int} (hS : S ≤ 4) (h : cellsOk S xs) (k : Nat) : keyAt xs k < 256 := by
  have h0 := digit_lt hS h (4 * k)
  have h1 := digit_lt hS h (4 * k + 1)
  have h2 := digit_lt hS h (4 * k + 2)
  have h3 := digit_lt hS h (4 * k + 3)
  unfold keyAt
  omega
theorem keyB_inj {S : Nat} {xs ys : List Int} (hS : S ≤ 4) (hx : cellsOk S xs) (hy : cellsOk S ys) (hl : xs.length = ys.length) (e : keyB xs = keyB ys) : xs = ys := by
  apply List.ext_getElem hl
  intro i h1 h2
  have hk : i / 4 < (xs.length + 3) / 4 := by omega
  have e1 := congrArg (fun l : List UInt8 => (l.getD (i / 4) 0).toNat) e
  have e2 : keyAt xs (i / 4) = keyAt ys (i / 4) := by
    have a := keyAt_lt hS hx (i / 4)
    have b := keyAt_lt hS hy (i / 4)
    have hk' : i / 4 < (ys.length + 3) / 4 := by omega
    simp [keyB, List.getD, hk, hk'] at e1
    omega
  have d : digit xs i = digit ys i := by
    have x0 := digit_lt hS hx (4 * (i / 4))
    have x1 := digit_lt hS hx (4 * (i / 4) + 1)
    have x2 := digit_lt hS hx (4 * (i / 4) + 2)
    have x3 := digit_lt hS hx (4 * (i / 4) + 3)
    have y0 := digit_lt hS hy (4 * (i / 4))
    have y1 := digit_lt hS hy (4 * (i / 4) + 1)
    have y2 := digit_lt hS hy (4 * (i / 4) + 2)
    have y3 := digit_lt hS hy (4 * (i / 4) + 3)
    unfold keyAt at e2
    have hi : i = 4 * (i / 4) ∨ i = 4 * (i / 4) + 1 ∨ i = 4 * (i / 4) + 2 ∨ i = 4 * (i / 4) + 3 := by omega
    generalize i / 4 = q at *
    rcases hi with rfl | rfl | rfl | rfl <;> omega
  have a := cellsOk_at hx h1
  have b := cellsOk_at hy h2
  have c1 : xs.getD i 0 = xs[i] := by simp [List.getD, h1]
  have c2 : ys.getD i 0 = ys[i] := by simp [List.getD, h2]
  unfold digit at d
  rw [c1] at a d
  rw [c2] at b d
  omega
end Go.Proofs.YtljdidimoagnhaaDoor

