/-
  What the last text of this claim leans on, part 33: Lk4.
-/
import Derived.Test.YtljdidimoagnhaaDoorJv32
import Derived.Test.YtljdidimoagnhaaDoorJv31
namespace Go.Proofs.YtljdidimoagnhaaDoor
open Go.RowKit
set_option linter.unusedVariables false

theorem Tab.argL {w : World} {v : Value} {xs : List Int} (h : Tab w v xs) (hm : xs.length ≤ maxLen) : ∃ a c, v = .slice a xs.length c ∧ ArgP w xs a xs.length c := by
  rcases h with ⟨h1, h2⟩ | ⟨g, cap, h1, h2, h3⟩
  · subst h1
    exact ⟨none, 0, h2, rfl, hm, fun k hk => by simp at hk⟩
  · exact ⟨some ⟨g, 0, none⟩, cap, h1, rfl, hm, fun k hk => ⟨g, 0, rfl, h2, by rw [Nat.zero_add]; exact h3 k hk⟩⟩
/-- A list that lies anywhere. -/
def ListAny (xs : List Int) (w : World) (e : Ending) (w' : World) : Prop :=
  ∃ a c, e = .returned (.slice a xs.length c) ∧ ArgP w' xs a xs.length c ∧ Below w.heap.size w w'

set_option maxRecDepth 100000 in
set_option maxHeartbeats 1600000 in
theorem refRun_any (S R : Nat) (T : List Int) (ta : Option Addr) (tn tc : Nat) (ws : List Int) (wa : Option Addr) (wc n : Nat) (w : World)
    (hL : LineOk S R T) (hT : ArgP w T ta tn tc) (hW : ArgP w ws wa ws.length wc) (hok : cellsOk S ws) (hl : ws.length ≤ 1000) (hn : n ≤ 100000) :
    Calls Tryd.prog 52 #[.agg #[.int .i64 2, .int .i64 0, .int .i64 0, .int .i64 (S : Int), .int .i64 (R : Int), .slice ta tn tc, .string ⟨#[]⟩], .slice wa ws.length wc, .int .i64 (n : Int)] w (ListAny (runL S R T n ws) w) := by
  obtain ⟨w1, hw1⟩ : ∃ w1, w.alloc (.cells #[.int .i64 2, .int .i64 0, .int .i64 0, .int .i64 (S : Int), .int .i64 (R : Int), .slice ta tn tc, .string ⟨#[]⟩] 24) = w1 := ⟨_, rfl⟩
  have BB := hide' (show Below w.heap.size w w1 by rw [← hw1]; exact (Below.refl _ _).alloc (Nat.le_refl _) _)
  have RX := hide' (show RB w.heap.size S R (.slice ta tn tc) w1 by rw [← hw1]; exact RB.new w S R _ _)
  have AT := hide' (hT.below BB.out)
  have AW := hide' (hW.below BB.out)
  have HL := hide' hL
  have LN := hide' (fun i => runL_length (S : Int) R T ws i)
  have LO := hide' (fun i => runL_ok (S := (S : Int)) (R := R) (T := T) (xs := ws) (by omega) hL.lenI hL.ok hok i)
  have hlw := hl
  clear hT hW hL hok hl
  go_enter Tryd.func52, Tryd.ntmps52
  go_wp2
  clear hw1
  go_loopw [7, 8] (fun lv iv wr => ∃ (i : Nat) (a : Option Addr) (c : Nat), iv = .int .i64 (i : Int) ∧ lv = .slice a ws.length c ∧ i ≤ n ∧ ArgP wr (runL S R T i ws) a ws.length c ∧ Below w1.heap.size w1 wr) (fun _ iv _ => n - (intOf iv).toNat)
  case atStart => exact ⟨0, wa, wc, rfl, rfl, by omega, AW.out, Below.refl _ _⟩
  case round =>
    obtain ⟨i, a, c, rfl, rfl, hi, ap, bl⟩ := hrel
    have AP := hide' ap
    have BL := hide' bl
    obtain ⟨x0, x1, x2, x3, x4, x5, x6⟩ := RX.out.next bl
    have AT1 := hide' (AT.out.below bl)
    clear ap bl
    by_cases d : (i : Int) < (n : Int)
    · go_wp2_with fail
      have K := refStep_any S R T ta tn tc (runL S R T i ws) a c wr HL.out AT1.out (by rw [LN.out i]; exact AP.out) (LO.out i) (by rw [LN.out i]; exact hlw)
      rw [LN.out i] at K
      refine K.mono ?_
      clear K
      rintro e w2 ⟨v, rfl, tv, fv, b2⟩
      have hle : (stepL S R T (runL S R T i ws)).length = ws.length := by rw [stepL_length, LN.out i]
      obtain ⟨a2, c2, rfl, ap2⟩ := tv.argL (by rw [hle]; unfold maxLen; omega)
      rw [hle] at ap2 ⊢
      have AP2 := hide' (show ArgP w2 (runL S R T (i + 1) ws) a2 ws.length c2 from ap2)
      have B2 := hide' (BL.out.trans (b2.mono BL.out.size))
      clear tv fv b2 hle ap2 x0 x1 x2 x3 x4 x5 x6
      go_wp2
      exact ⟨⟨i + 1, a2, c2, by go_num, rfl, by omega, AP2.out, B2.out⟩, by simp [intOf]; omega⟩
    · have FIN := hide' (show ArgP wr (runL S R T n ws) a ws.length c by rw [show n = i by omega]; exact AP.out)
      go_wp2
      go_ret
      refine ⟨a, c, ?_, ?_, BB.out.trans (BL.out.mono BB.out.size)⟩
      · rw [LN.out n]; rfl
      · rw [LN.out n]; exact FIN.out
end Go.Proofs.YtljdidimoagnhaaDoor

