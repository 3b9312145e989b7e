/-
  pattern.ParseRuns at a text of more than 40000 bytes; the whole.
-/
import Derived.Test.YtpbcgojfpmpgpaaDoorPa11
namespace Go.Proofs.YtpbcgojfpmpgpaaDoor
open Go.RowKit
set_option linter.unusedVariables false

set_option maxRecDepth 100000 in
set_option maxHeartbeats 1600000 in
theorem pParseRuns_full (s : ByteArray) (w : World) (hf : 40000 < s.size) (hs : s.size ≤ maxLen) :
    Calls Tryd.prog 35 #[.string s] w (RunsPost s w) := by
  have n1 : (40000 : Int) < (s.size : Int) := by omega
  unfold maxLen at hs
  go_enter Tryd.func35, Tryd.ntmps35
  go_wp2
  refine wp_scope_labels (fun l a' w' => RunFrame s w.heap.size (w.heap.size + 1) a' ∧ l = 0 ∧ JWrong s w w') (mAll s w) ?_ ?_
  · have A0 := hide' (rat_new (resW w) s 102)
    rw [resW_size] at A0
    have B0 := hide' (show Below (w.heap.size + 1) (resW w) ((resW w).alloc (.cells #[.string s, .int .i64 0, .int .i64 0, .int .i64 0, .int .i64 0, .slice none 0 0, .int .i64 0, .int .i64 0, .int .i64 0, .int .i64 0] 102)) from (Below.refl _ _).alloc (by rw [resW_size]; omega) _)
    go_wp2_with fail
    refine (pfail (w.heap.size + 1) s rv0 0 _ _ _ rfl A0.out).mono ?_
    rintro e wr ⟨rfl, a1, r1⟩
    have J1 : JWrong s w wr := ⟨⟨0, 4, _, a1, rfl, rfl, by unfold runsS; rw [if_pos hf]⟩, B0.out.trans (r1.below (Nat.le_refl _) (by simp [resW]))⟩
    clear a1 r1
    go_wp2
    go_step3
    exact ⟨⟨_, _, _, _, _, _, _, _, _, _, _, _, _, _, _, _, _, _, _, _, _, _, _, _, _, _, _, _, _, _, _, _, _, _, _, _, _, _, _, _, _, _, _, _, rfl⟩, rfl, J1⟩
  · rintro l a' wr ⟨⟨u6, u7, u8, u9, u10, u11, u12, u13, u14, u15, u16, u17, u18, u19, u20, u21, u22, u23, u24, u25, u26, u27, u28, u29, u30, u31, u32, u33, u34, u35, u36, u37, u38, u39, u40, u41, u42, u43, u44, u45, u46, u47, u48, u49, rfl⟩, rfl, ⟨rr, ff, v, ra, ri, rf, re⟩, rb⟩
    refine ⟨_, rfl, ?_⟩
    have x1 := ra.ten.c1
    have x2 := ra.ten.c2
    rw [ri] at x1
    rw [rf] at x2
    obtain ⟨y0, y1, y2, g0, g1, g2⟩ := (resW_res w).below (by rw [resW_size]; omega) rb
    have RB := hide' rb
    have RE := hide' re
    clear ra ri rf rb re
    go_wp2
    go_region
    go_wp2
    rw [jumps_ret]
    refine bodyPost_ret (v := .tuple #[.agg #[.int .i64 0, .int .i64 0, .slice none 0 0], .int .i64 (rr : Int), .iface 72 (.int .i64 (ff : Int))]) (by simp [results, Tryd.results35, go_sem, y0, y1, y2]) rfl ?_
    exact ⟨(((below_res RB.out).setCell (Nat.le_refl _) _).setCell (Nat.le_refl _) _ |>.setCell (Nat.le_refl _) _).trans ⟨rfl, rfl, rfl, Nat.le_refl _, fun _ _ => rfl⟩, Or.inr ⟨rr, ff, RE.out, rfl⟩⟩

theorem pParseRuns_any (s : ByteArray) (w : World) (hs : s.size ≤ maxLen) :
    Calls Tryd.prog 35 #[.string s] w (RunsPost s w) := by
  by_cases h : 40000 < s.size
  · exact pParseRuns_full s w h hs
  · exact pParseRuns s w (by omega)
end Go.Proofs.YtpbcgojfpmpgpaaDoor
