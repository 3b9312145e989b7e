/-
  edenlaw1.PatternReads, walked: at every text it returns true: the whole.
-/
import Derived.Test.YtpbcgojfpmpgpaaDoorLawR
namespace Go.Proofs.YtpbcgojfpmpgpaaDoor
open Go.RowKit
set_option linter.unusedVariables false

theorem tab_below {w w' : World} {v : Value} {xs : List Int} (h : Tab w v xs) (hb : Below w.heap.size w w') : Tab w' v xs := by
  rcases h with h | ⟨g, cap, hv, hg, hc⟩
  · exact Or.inl h
  · exact Or.inr ⟨g, cap, hv, Nat.lt_of_lt_of_le hg hb.size, fun k hk => (World.cell?_of_block (w := w) (a := ⟨g, k, none⟩) (hb.block g hg)).trans (hc k hk)⟩
theorem below_stored {B : Nat} {w w' : World} (h : Below B w w') (p : Nat) (hp : B ≤ p) (a b c : Value) : Below B w (((w'.setCell ⟨p, 0, none⟩ a).setCell ⟨p, 1, none⟩ b).setCell ⟨p, 2, none⟩ c) :=
  ((h.setCell hp _).setCell hp _).setCell hp _
theorem stored_size (w : World) (p : Nat) (a b c : Value) : (((w.setCell ⟨p, 0, none⟩ a).setCell ⟨p, 1, none⟩ b).setCell ⟨p, 2, none⟩ c).heap.size = w.heap.size := by
  rw [World.size_setCell, World.size_setCell, World.size_setCell]

set_option maxRecDepth 100000 in
set_option maxHeartbeats 6400000 in
theorem law_reads (s : ByteArray) (w : World) (hs : s.size ≤ maxLen) (hg : Handle w) :
    Calls Tryd.prog 7 #[.string s] w fun e w' => e = .returned (.bool true) ∧ Below w.heap.size w w' := by
  obtain ⟨W, H, a, k, errv, xs, p1, g1, e1⟩ := pair_runs s hs
  obtain ⟨W', H', a', k', errv', xs', p2, g2, e2⟩ := pair_draw s hs
  have P1 := hide' p1
  have G1 := hide' g1
  have E1 := hide' e1
  have P2 := hide' p2
  have G2 := hide' g2
  have E2 := hide' e2
  have HG := hide' hg
  have n0 : (a != a) = false := by simp
  have n1 : (a' == a') = true := by simp
  clear p1 g1 e1 p2 g2 e2 hg
  go_enter Tryd.func7, Tryd.ntmps7
  go_wp2_with fail
  refine (P1.out _).mono ?_
  rintro e w1 ⟨va, rfl, ta, b1, hl, -⟩
  obtain ⟨a1, m1, c1, rfl⟩ := ta.slice
  have T1 := hide' ta
  have B1 := hide' b1
  have Q1 := hide' (PB.new w1 (.int .i64 W) (.int .i64 H) (.slice a1 m1 c1) 51)
  have z1 := b1.size
  clear ta b1
  go_wp2_with fail
  refine (G1.out _).mono ?_
  rintro e w2 ⟨vb, rfl, tb, b2, -⟩
  obtain ⟨a2, m2, c2, rfl⟩ := tb.slice
  have z2 := b2.size
  rw [World.size_alloc] at z2
  have Q2 := hide' ((Q1.out.next b2).block (w' := w2.alloc (.cells #[.int .i64 W, .int .i64 H, .slice a2 m2 c2] 51)) (Below.heap_alloc _ _ _ (by omega)))
  have R2 := hide' (PB.new w2 (.int .i64 W) (.int .i64 H) (.slice a2 m2 c2) 51)
  have TA := hide' (show Tab (w2.alloc (.cells #[.int .i64 W, .int .i64 H, .slice a2 m2 c2] 51)) (.slice a1 m1 c1) xs from (tab_below (T1.out.alloc' _) b2).alloc' _)
  have TB := hide' (show Tab (w2.alloc (.cells #[.int .i64 W, .int .i64 H, .slice a2 m2 c2] 51)) (.slice a2 m2 c2) xs from tb.alloc' _)
  have B2 := hide' (show Below w.heap.size w (w2.alloc (.cells #[.int .i64 W, .int .i64 H, .slice a2 m2 c2] 51)) from ((B1.out.alloc z1 _).trans (b2.mono (by rw [World.size_alloc]; omega))).alloc (by omega) _)
  clear tb b2 Q1 T1 B1
  go_wp2_with fail
  refine (E1.out _ (HG.out.below B2.out)).mono ?_
  rintro e w3 ⟨rfl, b3⟩
  have z3 := b3.size
  rw [World.size_alloc] at z3
  have Q3 := hide' (Q2.out.next b3)
  have R3 := hide' (R2.out.next b3)
  have TA3 := hide' (tab_below TA.out b3)
  have TB3 := hide' (tab_below TB.out b3)
  have B3 := hide' (B2.out.trans (b3.mono (by rw [World.size_alloc]; omega)))
  obtain ⟨x0, x1, x2, -⟩ := Q3.out
  obtain ⟨y0, y1, y2, -⟩ := R3.out
  clear b3 Q2 R2 TA TB B2
  go_wp2_with fail
  refine (Alike_same W H _ _ xs _ TA3.out TB3.out hl).mono ?_
  rintro e w4 ⟨rfl, b4⟩
  have z4 := b4.size
  have Q4 := hide' (Q3.out.next b4)
  have R4 := hide' (R3.out.next b4)
  have B4 := hide' (B3.out.trans (b4.mono (by omega)))
  clear b4 Q3 R3 TA3 TB3 B3 x0 x1 x2 y0 y1 y2
  go_wp2_with fail
  refine (P2.out _).mono ?_
  rintro e w5 ⟨va', rfl, ta, b5, hl', fa⟩
  obtain ⟨a5, m5, c5, rfl⟩ := ta.slice
  have z5 := b5.size
  have Q5 := hide' (Q4.out.next b5)
  have R5 := hide' (R4.out.next b5)
  have TA5 := hide' (tab_stored ta w1.heap.size (.int .i64 W') (.int .i64 H') (.slice a5 m5 c5) (by omega) (fun g k c e => by have := fa g k c e; omega))
  have S5 := hide' (Q5.out.store (.int .i64 W') (.int .i64 H') (.slice a5 m5 c5))
  have U5 := hide' (R5.out.block (stored_block w5 w1.heap.size w2.heap.size (.int .i64 W') (.int .i64 H') (.slice a5 m5 c5) (by omega)))
  have B5 := hide' (below_stored (B4.out.trans (b5.mono (by omega))) w1.heap.size (by omega) (.int .i64 W') (.int .i64 H') (.slice a5 m5 c5))
  have FA := hide' fa
  obtain ⟨x0, x1, x2, xf⟩ := Q5.out
  have f0 := xf 0
  have f1 := xf 1
  have f2 := xf 2
  clear ta b5 fa Q4 R4 B4 xf
  go_wp2_with fail
  refine (G2.out _).mono ?_
  rintro e w6 ⟨vb', rfl, tb, b6, fb⟩
  obtain ⟨a6, m6, c6, rfl⟩ := tb.slice
  have z6 := b6.size
  rw [stored_size] at z6
  have Q6 := hide' (S5.out.next b6)
  have R6 := hide' (U5.out.next b6)
  have TA6 := hide' (tab_stored (tab_below TA5.out b6) w2.heap.size (.int .i64 W') (.int .i64 H') (.slice a6 m6 c6) (by omega) (fun g k c e => by have := FA.out g k c e; omega))
  have TB6 := hide' (tab_stored tb w2.heap.size (.int .i64 W') (.int .i64 H') (.slice a6 m6 c6) (by omega) (fun g k c e => by have := fb g k c e; rw [stored_size] at this; omega))
  have S6 := hide' (R6.out.store (.int .i64 W') (.int .i64 H') (.slice a6 m6 c6))
  have U6 := hide' (Q6.out.block (stored_block w6 w2.heap.size w1.heap.size (.int .i64 W') (.int .i64 H') (.slice a6 m6 c6) (by omega)))
  have B6 := hide' (below_stored (B5.out.trans (b6.mono (by rw [stored_size]; omega))) w2.heap.size (by omega) (.int .i64 W') (.int .i64 H') (.slice a6 m6 c6))
  clear x0 x1 x2 f0 f1 f2
  obtain ⟨y0, y1, y2, yf⟩ := R6.out
  have f0 := yf 0
  have f1 := yf 1
  have f2 := yf 2
  clear tb b6 fb Q5 R5 S5 U5 TA5 B5 yf
  go_wp2_with fail
  refine (E2.out _ (HG.out.below B6.out)).mono ?_
  rintro e w7 ⟨rfl, b7⟩
  have z7 := b7.size
  rw [stored_size] at z7
  have TA7 := hide' (tab_below TA6.out b7)
  have TB7 := hide' (tab_below TB6.out b7)
  have B7 := hide' (B6.out.trans (b7.mono (by rw [stored_size]; omega)))
  clear y0 y1 y2 f0 f1 f2
  obtain ⟨x0, x1, x2, -⟩ := U6.out.next b7
  obtain ⟨y0, y1, y2, -⟩ := S6.out.next b7
  clear b7 S6 U6 TA6 TB6 B6 Q6 R6
  go_wp2_with fail
  refine (Alike_same W' H' _ _ xs' _ TA7.out TB7.out hl').mono ?_
  rintro e w8 ⟨rfl, b8⟩
  have B8 := hide' (B7.out.trans (b8.mono (by omega)))
  clear b8 B7
  go_wp2
  go_ret
  exact ⟨rfl, B8.out⟩
end Go.Proofs.YtpbcgojfpmpgpaaDoor
