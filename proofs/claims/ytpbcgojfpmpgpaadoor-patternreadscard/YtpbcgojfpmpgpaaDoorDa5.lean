/-
  pattern.ParseDraw and edenref1.ParseRuns, ParseDraw at texts of more than 40000 bytes.
-/
import Derived.Test.YtpbcgojfpmpgpaaDoorDa4
import Derived.Test.YtpbcgojfpmpgpaaDoorQa3
import Derived.Test.YtpbcgojfpmpgpaaDoorQb1
import Derived.Test.YtpbcgojfpmpgpaaDoorPa12
namespace Go.Proofs.YtpbcgojfpmpgpaaDoor
open Go.RowKit
set_option linter.unusedVariables false

set_option maxRecDepth 100000 in
set_option maxHeartbeats 1600000 in
theorem pParseDraw_any (s : ByteArray) (w : World) (hs : s.size ≤ maxLen) :
    Calls Tryd.prog 37 #[.string s] w (DrawPost s w) := by
  by_cases h : 40000 < s.size
  · have n1 : (40000 : Int) < (s.size : Int) := by omega
    have r0 := res_new w 51
    obtain ⟨y0, y1, y2, g0, g1, g2⟩ := r0
    unfold maxLen at hs
    have RE := hide' (show drawS s = .inr (0, 4) by unfold drawS; rw [if_pos h])
    go_enter Tryd.func37, Tryd.ntmps37
    go_wp2
    refine bodyPost_ret (v := .tuple #[.agg #[.int .i64 0, .int .i64 0, .slice none 0 0], .int .i64 0, .iface 72 (.int .i64 4)]) (by simp [results, Tryd.results37, go_sem]) rfl ?_
    refine ⟨?_, Or.inr ⟨0, 4, RE.out, rfl⟩⟩
    exact (Below.refl _ _).alloc (Nat.le_refl _) _
  · exact pParseDraw s w (by omega)

set_option maxRecDepth 100000 in
set_option maxHeartbeats 1600000 in
theorem refParseDraw_any (s : ByteArray) (w : World) (hs : s.size ≤ maxLen) :
    Calls Tryd.prog 38 #[.string s] w (RefDraw s w) := by
  by_cases h : 40000 < s.size
  · have n1 : (40000 : Int) < (s.size : Int) := by omega
    unfold maxLen at hs
    have RE := hide' (show drawS s = .inr (0, 4) by unfold drawS; rw [if_pos h])
    go_enter Tryd.func38, Tryd.ntmps38
    go_wp2
    refine bodyPost_ret (v := .tuple #[.agg #[.int .i64 0, .int .i64 0, .slice none 0 0], .int .i64 0, .int .i64 4]) (by simp [results, Tryd.results38, go_sem]) rfl ?_
    refine ⟨?_, Or.inr ⟨0, 4, RE.out, by omega, rfl⟩⟩
    exact ((Below.refl _ _).alloc (Nat.le_refl _) _).alloc (by simp) _
  · exact refParseDraw s w (by omega)

set_option maxRecDepth 100000 in
set_option maxHeartbeats 1600000 in
theorem refParseRuns_any (s : ByteArray) (w : World) (hs : s.size ≤ maxLen) :
    Calls Tryd.prog 36 #[.string s] w (RefRuns s w) := by
  by_cases h : 40000 < s.size
  · have n1 : (40000 : Int) < (s.size : Int) := by omega
    unfold maxLen at hs
    have RE := hide' (show runsS s = .inr (0, 4) by unfold runsS; rw [if_pos h])
    go_enter Tryd.func36, Tryd.ntmps36
    go_wp2
    refine bodyPost_ret (v := .tuple #[.agg #[.int .i64 0, .int .i64 0, .slice none 0 0], .int .i64 0, .int .i64 4]) (by simp [results, Tryd.results36, go_sem]) rfl ?_
    refine ⟨?_, Or.inr ⟨0, 4, RE.out, by omega, rfl⟩⟩
    exact ((Below.refl _ _).alloc (Nat.le_refl _) _).alloc (by simp) _
  · exact refParseRuns s w (by omega)

end Go.Proofs.YtpbcgojfpmpgpaaDoor
