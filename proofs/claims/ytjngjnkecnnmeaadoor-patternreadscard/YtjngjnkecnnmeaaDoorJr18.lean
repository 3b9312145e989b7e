/-
  What the last text of this claim leans on, part 18: Pa12, Da5, Al1.
-/
import Derived.Test.YtjngjnkecnnmeaaDoorJr17
import Derived.Test.YtjngjnkecnnmeaaDoorJr13
import Derived.Test.YtjngjnkecnnmeaaDoorJr14
import Derived.Test.YtjngjnkecnnmeaaDoorJr16
import Derived.Test.YtjngjnkecnnmeaaDoorJr7
namespace Go.Proofs.YtjngjnkecnnmeaaDoor
open Go.RowKit
set_option linter.unusedVariables false

set_option maxRecDepth 100000 in
set_option maxHeartbeats 1600000 in
theorem pParseRuns_full (s : ByteArray) (w : World) (hf : 40000 < s.size) (hs : s.size ≤ maxLen) :
    Calls Tryd.prog 39 #[.string s] w (RunsPost s w) := by
  have n1 : (40000 : Int) < (s.size : Int) := by omega
  unfold maxLen at hs
  go_enter Tryd.func39, Tryd.ntmps39
  go_wp2
  refine wp_scope_labels (fun l a' w' => RunFrame s w.heap.size (w.heap.size + 1) a' ∧ l = 0 ∧ JWrong s w w') (mAll s w) ?_ ?_
  · have A0 := hide' (rat_new (resW w) s 115)
    rw [resW_size] at A0
    have B0 := hide' (show Below (w.heap.size + 1) (resW w) ((resW w).alloc (.cells #[.string s, .int .i64 0, .int .i64 0, .int .i64 0, .int .i64 0, .slice none 0 0, .int .i64 0, .int .i64 0, .int .i64 0, .int .i64 0] 115)) from (Below.refl _ _).alloc (by rw [resW_size]; omega) _)
    go_wp2_with fail
    refine (pfail (w.heap.size + 1) s rv0 0 _ _ _ rfl A0.out).mono ?_
    rintro e wr ⟨rfl, a1, r1⟩
    have J1 : JWrong s w wr := ⟨⟨0, 4, _, a1, rfl, rfl, by unfold runsS; rw [if_pos hf]⟩, B0.out.trans (r1.below (Nat.le_refl _) (by simp [resW]))⟩
    clear a1 r1
    go_wp2
    go_step3
    exact ⟨⟨_, _, _, _, _, _, _, _, _, _, _, _, _, _, _, _, _, _, _, _, _, _, _, _, _, _, _, _, _, _, _, _, _, _, _, _, _, _, _, _, _, _, _, _, rfl⟩, rfl, J1⟩
  · rintro l a' wr ⟨⟨u6, u7, u8, u9, u10, u11, u12, u13, u14, u15, u16, u17, u18, u19, u20, u21, u22, u23, u24, u25, u26, u27, u28, u29, u30, u31, u32, u33, u34, u35, u36, u37, u38, u39, u40, u41, u42, u43, u44, u45, u46, u47, u48, u49, rfl⟩, rfl, ⟨rr, ff, v, ra, ri, rf, re⟩, rb⟩
    refine ⟨_, rfl, ?_⟩
    have x1 := ra.ten.c1
    have x2 := ra.ten.c2
    rw [ri] at x1
    rw [rf] at x2
    obtain ⟨y0, y1, y2, g0, g1, g2⟩ := (resW_res w).below (by rw [resW_size]; omega) rb
    have RB := hide' rb
    have RE := hide' re
    clear ra ri rf rb re
    go_wp2
    go_region
    go_wp2
    rw [jumps_ret]
    refine bodyPost_ret (v := .tuple #[.agg #[.int .i64 0, .int .i64 0, .slice none 0 0], .int .i64 (rr : Int), .iface 87 (.int .i64 (ff : Int))]) (by simp [results, Tryd.results39, go_sem, y0, y1, y2]) rfl ?_
    exact ⟨(((below_res RB.out).setCell (Nat.le_refl _) _).setCell (Nat.le_refl _) _ |>.setCell (Nat.le_refl _) _).trans ⟨rfl, rfl, rfl, Nat.le_refl _, fun _ _ => rfl⟩, Or.inr ⟨rr, ff, RE.out, rfl⟩⟩

theorem pParseRuns_any (s : ByteArray) (w : World) (hs : s.size ≤ maxLen) :
    Calls Tryd.prog 39 #[.string s] w (RunsPost s w) := by
  by_cases h : 40000 < s.size
  · exact pParseRuns_full s w h hs
  · exact pParseRuns s w (by omega)
end Go.Proofs.YtjngjnkecnnmeaaDoor

namespace Go.Proofs.YtjngjnkecnnmeaaDoor
open Go.RowKit
set_option linter.unusedVariables false

set_option maxRecDepth 100000 in
set_option maxHeartbeats 1600000 in
theorem pParseDraw_any (s : ByteArray) (w : World) (hs : s.size ≤ maxLen) :
    Calls Tryd.prog 41 #[.string s] w (DrawPost s w) := by
  by_cases h : 40000 < s.size
  · have n1 : (40000 : Int) < (s.size : Int) := by omega
    have r0 := res_new w 51
    obtain ⟨y0, y1, y2, g0, g1, g2⟩ := r0
    unfold maxLen at hs
    have RE := hide' (show drawS s = .inr (0, 4) by unfold drawS; rw [if_pos h])
    go_enter Tryd.func41, Tryd.ntmps41
    go_wp2
    refine bodyPost_ret (v := .tuple #[.agg #[.int .i64 0, .int .i64 0, .slice none 0 0], .int .i64 0, .iface 87 (.int .i64 4)]) (by simp [results, Tryd.results41, go_sem]) rfl ?_
    refine ⟨?_, Or.inr ⟨0, 4, RE.out, rfl⟩⟩
    exact (Below.refl _ _).alloc (Nat.le_refl _) _
  · exact pParseDraw s w (by omega)

set_option maxRecDepth 100000 in
set_option maxHeartbeats 1600000 in
theorem refParseDraw_any (s : ByteArray) (w : World) (hs : s.size ≤ maxLen) :
    Calls Tryd.prog 42 #[.string s] w (RefDraw s w) := by
  by_cases h : 40000 < s.size
  · have n1 : (40000 : Int) < (s.size : Int) := by omega
    unfold maxLen at hs
    have RE := hide' (show drawS s = .inr (0, 4) by unfold drawS; rw [if_pos h])
    go_enter Tryd.func42, Tryd.ntmps42
    go_wp2
    refine bodyPost_ret (v := .tuple #[.agg #[.int .i64 0, .int .i64 0, .slice none 0 0], .int .i64 0, .int .i64 4]) (by simp [results, Tryd.results42, go_sem]) rfl ?_
    refine ⟨?_, Or.inr ⟨0, 4, RE.out, by omega, rfl⟩⟩
    exact ((Below.refl _ _).alloc (Nat.le_refl _) _).alloc (by simp) _
  · exact refParseDraw s w (by omega)

set_option maxRecDepth 100000 in
set_option maxHeartbeats 1600000 in
theorem refParseRuns_any (s : ByteArray) (w : World) (hs : s.size ≤ maxLen) :
    Calls Tryd.prog 40 #[.string s] w (RefRuns s w) := by
  by_cases h : 40000 < s.size
  · have n1 : (40000 : Int) < (s.size : Int) := by omega
    unfold maxLen at hs
    have RE := hide' (show runsS s = .inr (0, 4) by unfold runsS; rw [if_pos h])
    go_enter Tryd.func40, Tryd.ntmps40
    go_wp2
    refine bodyPost_ret (v := .tuple #[.agg #[.int .i64 0, .int .i64 0, .slice none 0 0], .int .i64 0, .int .i64 4]) (by simp [results, Tryd.results40, go_sem]) rfl ?_
    refine ⟨?_, Or.inr ⟨0, 4, RE.out, by omega, rfl⟩⟩
    exact ((Below.refl _ _).alloc (Nat.le_refl _) _).alloc (by simp) _
  · exact refParseRuns s w (by omega)

end Go.Proofs.YtjngjnkecnnmeaaDoor

namespace Go.Proofs.YtjngjnkecnnmeaaDoor
open Go.RowKit
set_option linter.unusedVariables false

theorem Cel.tab {w : World} {g n : Nat} {xs : List Int} (h : Cel w g xs) (hn : xs.length = n) : Tab w (.slice (some ⟨g, 0, none⟩) n n) xs := by
  subst hn
  exact Or.inr ⟨g, xs.length, rfl, h.lt, fun k hk => by rw [h.cells k hk]; simp [List.getD, hk]⟩

set_option maxHeartbeats 1600000 in
theorem Alike_same (W H : Int) (va vb : Value) (xs : List Int) (w : World) (ha : Tab w va xs) (hb : Tab w vb xs) (hm : xs.length ≤ maxLen) :
    Calls Tryd.prog 33 #[.agg #[.int .i64 W, .int .i64 H, va], .agg #[.int .i64 W, .int .i64 H, vb]] w fun e w' => e = .returned (.bool true) ∧ Below w.heap.size w w' := by
  have TA := hide' (show Tab ((w.alloc (.cells #[.int .i64 W, .int .i64 H, va] 51)).alloc (.cells #[.int .i64 W, .int .i64 H, vb] 51)) va xs from (ha.alloc' _).alloc' _)
  have TB := hide' (show Tab ((w.alloc (.cells #[.int .i64 W, .int .i64 H, va] 51)).alloc (.cells #[.int .i64 W, .int .i64 H, vb] 51)) vb xs from (hb.alloc' _).alloc' _)
  obtain ⟨a, ca, rfl, -⟩ := ha.parts
  obtain ⟨b, cb, rfl, -⟩ := hb.parts
  go_enter Tryd.func33, Tryd.ntmps33
  go_wp2_with fail
  refine (Ints_same xs _ _ _ TA.out TB.out hm).mono ?_
  rintro e w1 ⟨rfl, m, rfl⟩
  go_wp2
  go_ret
  exact ⟨rfl, below_drewN (((Below.refl _ _).alloc (Nat.le_refl _) _).alloc (by simp) _) m⟩
end Go.Proofs.YtjngjnkecnnmeaaDoor

