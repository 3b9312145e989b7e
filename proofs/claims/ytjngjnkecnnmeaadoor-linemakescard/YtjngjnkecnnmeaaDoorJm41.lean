/-
  What the last text of this claim leans on, part 41: LawP2.
-/
import Derived.Test.YtjngjnkecnnmeaaDoorJm39
namespace Go.Proofs.YtjngjnkecnnmeaaDoor
open Go.RowKit
set_option linter.unusedVariables false

set_option maxRecDepth 100000 in
set_option maxHeartbeats 6400000 in
theorem law_makes_shape_low (S Ra : Nat) (Ta : List Int) (S' Rb : Nat) (Tb : List Int) (k : Int) (ta : Option Addr) (na ca : Nat) (tb : Option Addr) (nb cb : Nat) (w : World) (hg : Handle w) (hLa : LineOk S Ra Ta) (hTa : ArgP w Ta ta na ca) (hLb : LineOk S' Rb Tb) (hTb : ArgP w Tb tb nb cb) (hne : S ≠ S') (hk : k < (Ra : Int)) :
    Calls Tryd.prog 11 #[.agg #[.int .i64 2, .int .i64 0, .int .i64 0, .int .i64 (S : Int), .int .i64 (Ra : Int), .slice ta na ca, .string ⟨#[]⟩], .agg #[.int .i64 2, .int .i64 0, .int .i64 0, .int .i64 (S' : Int), .int .i64 (Rb : Int), .slice tb nb cb, .string ⟨#[]⟩], .int .i64 k] w fun e w' => e = .returned (.bool true) ∧ Below w.heap.size w w' := by
  obtain ⟨w1, hw1⟩ : ∃ w1, (w.alloc (.cells #[.int .i64 2, .int .i64 0, .int .i64 0, .int .i64 (S : Int), .int .i64 (Ra : Int), .slice ta na ca, .string ⟨#[]⟩] 24)).alloc (.cells #[.int .i64 2, .int .i64 0, .int .i64 0, .int .i64 (S' : Int), .int .i64 (Rb : Int), .slice tb nb cb, .string ⟨#[]⟩] 24) = w1 := ⟨_, rfl⟩
  have z1 : w1.heap.size = w.heap.size + 2 := by rw [← hw1]; simp
  have BB := hide' (show Below w.heap.size w w1 by rw [← hw1]; exact ((Below.refl _ _).alloc (Nat.le_refl _) _).alloc (by simp) _)
  have RA := hide' (show RB w.heap.size S Ra (.slice ta na ca) w1 by
    rw [← hw1]
    exact (RB.new w S Ra (.slice ta na ca) 24).block (Below.heap_alloc _ _ _ (by simp)))
  have RBB := hide' (show RB (w.heap.size + 1) S' Rb (.slice tb nb cb) w1 by
    have h := RB.new (w.alloc (.cells #[.int .i64 2, .int .i64 0, .int .i64 0, .int .i64 (S : Int), .int .i64 (Ra : Int), .slice ta na ca, .string ⟨#[]⟩] 24)) S' Rb (.slice tb nb cb) 24
    rw [World.size_alloc, hw1] at h
    exact h)
  have HG := hide' (hg.below BB.out)
  have AT := hide' (hTa.below BB.out)
  have HLa := hide' hLa
  have ra10 := hLa.r10
  have s2 := hLa.s2
  have s4 := hLa.s4
  have ATb := hide' (hTb.below BB.out)
  have HLb := hide' hLb
  have rb10 := hLb.r10
  have m1 : ((S : Int) != (S' : Int)) = true := by rw [bne_iff_ne]; omega
  have HNE := hide' hne
  clear hne
  clear hTb hLb
  clear hTa hLa
  have i1 : k < (Ra : Int) := hk
  have HKK := hide' hk
  clear hk
  clear hg
  have C0 := hide' (Below.refl w1.heap.size w1)
  obtain ⟨x0, x1, x2, x3, x4, x5, x6⟩ := RA.out
  obtain ⟨y0, y1, y2, y3, y4, y5, y6⟩ := RBB.out
  go_enter Tryd.func11, Tryd.ntmps11
  go_wp2_with fail
  refine (fault_nil_line S Ra Ta ta na ca _ HLa.out (AT.out.below C0.out)).mono ?_
  rintro e w2 ⟨rfl, b⟩
  have C1 := hide' (C0.out.trans (b.mono C0.out.size))
  clear hw1
  clear b x0 x1 x2 x3 x4 x5 x6 y0 y1 y2 y3 y4 y5 y6 C0
  obtain ⟨x0, x1, x2, x3, x4, x5, x6⟩ := RA.out.next C1.out
  obtain ⟨y0, y1, y2, y3, y4, y5, y6⟩ := RBB.out.next C1.out
  go_wp2_with fail
  refine (fault_nil_line S' Rb Tb tb nb cb _ HLb.out (ATb.out.below C1.out)).mono ?_
  rintro e w3 ⟨rfl, b⟩
  have C2 := hide' (C1.out.trans (b.mono C1.out.size))
  clear b x0 x1 x2 x3 x4 x5 x6 y0 y1 y2 y3 y4 y5 y6 C1
  obtain ⟨x0, x1, x2, x3, x4, x5, x6⟩ := RA.out.next C2.out
  obtain ⟨y0, y1, y2, y3, y4, y5, y6⟩ := RBB.out.next C2.out
  go_wp2_with fail
  refine (compose_shape S Ra Ta S' Rb Tb ta na ca tb nb cb _ HLa.out (AT.out.below C2.out) HLb.out (ATb.out.below C2.out) HNE.out).mono ?_
  unfold RuleErr
  rintro e w4 ⟨rfl, b⟩
  have C3 := hide' (C2.out.trans (b.mono C2.out.size))
  have HPCB := hide' C3.out.size
  have C3' := hide' (C3.out.alloc C3.out.size (.cells #[.int .i64 0, .int .i64 0, .int .i64 0, .int .i64 0, .int .i64 0, .slice none 0 0, .string ⟨#[]⟩] 24))
  clear C3
  have C3 := C3'
  clear C3'
  have CB := hide' (S7.new w4 (.int .i64 0) (.int .i64 0) (.int .i64 0) (.int .i64 0) (.int .i64 0) (.slice none 0 0) (.string ⟨#[]⟩) 24)
  clear b x0 x1 x2 x3 x4 x5 x6 y0 y1 y2 y3 y4 y5 y6 C2
  obtain ⟨x0, x1, x2, x3, x4, x5, x6⟩ := RA.out.next C3.out
  obtain ⟨y0, y1, y2, y3, y4, y5, y6⟩ := RBB.out.next C3.out
  go_wp2_with fail
  refine (err_some_true 3 _ (HG.out.below C3.out)).mono ?_
  rintro e w5 ⟨rfl, b⟩
  have C4 := hide' (C3.out.trans (b.mono C3.out.size))
  have CB' := hide' (CB.out.next b)
  clear CB
  have CB := CB'
  clear CB'
  clear b x0 x1 x2 x3 x4 x5 x6 y0 y1 y2 y3 y4 y5 y6 C3
  obtain ⟨x0, x1, x2, x3, x4, x5, x6⟩ := RA.out.next C4.out
  obtain ⟨y0, y1, y2, y3, y4, y5, y6⟩ := RBB.out.next C4.out
  have pcl := CB.out.lt
  have HPDB := hide' C4.out.size
  have C4' := hide' (C4.out.alloc C4.out.size (.cells #[.int .i64 0, .int .i64 0, .int .i64 0, .int .i64 0, .int .i64 0, .slice none 0 0, .string ⟨#[]⟩] 24))
  clear C4
  have C4 := C4'
  clear C4'
  have DB := hide' (S7.new (w5) (.int .i64 0) (.int .i64 0) (.int .i64 0) (.int .i64 0) (.int .i64 0) (.slice none 0 0) (.string ⟨#[]⟩) 24)
  have CB' := hide' (CB.out.alloc (.cells #[.int .i64 0, .int .i64 0, .int .i64 0, .int .i64 0, .int .i64 0, .slice none 0 0, .string ⟨#[]⟩] 24))
  clear CB
  have CB := CB'
  clear CB'
  clear x0 x1 x2 x3 x4 x5 x6 y0 y1 y2 y3 y4 y5 y6
  obtain ⟨x0, x1, x2, x3, x4, x5, x6⟩ := RA.out.next C4.out
  obtain ⟨y0, y1, y2, y3, y4, y5, y6⟩ := RBB.out.next C4.out
  obtain ⟨q0, q1, q2, q3, q4, q5, q6, qf⟩ := CB.out
  obtain ⟨r0, r1, r2, r3, r4, r5, r6, rf⟩ := DB.out
  go_wp2_with fail
  refine (same_zero _).mono ?_
  rintro e w6 ⟨rfl, b⟩
  clear q0 q1 q2 q3 q4 q5 q6 qf
  clear r0 r1 r2 r3 r4 r5 r6 rf
  have C5 := hide' (C4.out.trans (b.mono C4.out.size))
  have CB' := hide' (CB.out.next b)
  clear CB
  have CB := CB'
  clear CB'
  have DB' := hide' (DB.out.next b)
  clear DB
  have DB := DB'
  clear DB'
  clear b x0 x1 x2 x3 x4 x5 x6 y0 y1 y2 y3 y4 y5 y6 C4
  obtain ⟨x0, x1, x2, x3, x4, x5, x6⟩ := RA.out.next C5.out
  obtain ⟨y0, y1, y2, y3, y4, y5, y6⟩ := RBB.out.next C5.out
  have pcl2 := CB.out.lt
  have pdl2 := DB.out.lt
  go_wp2_with fail
  refine (widen_low S Ra Ta k ta na ca _ HLa.out (AT.out.below C5.out) HKK.out).mono ?_
  unfold RuleErr
  rintro e w7 ⟨rfl, b⟩
  have C6 := hide' (C5.out.trans (b.mono C5.out.size))
  have CB' := hide' (CB.out.next b)
  clear CB
  have CB := CB'
  clear CB'
  have DB' := hide' (DB.out.next b)
  clear DB
  have DB := DB'
  clear DB'
  clear b x0 x1 x2 x3 x4 x5 x6 y0 y1 y2 y3 y4 y5 y6 C5
  obtain ⟨x0, x1, x2, x3, x4, x5, x6⟩ := RA.out.next C6.out
  obtain ⟨y0, y1, y2, y3, y4, y5, y6⟩ := RBB.out.next C6.out
  have hlt6 := CB.out.lt
  obtain ⟨p0, p1, p2, p3, p4, p5, p6, pf⟩ := CB.out
  have pf0 := pf 0
  have pf1 := pf 1
  have pf2 := pf 2
  have pf3 := pf 3
  have pf4 := pf 4
  have pf5 := pf 5
  have pf6 := pf 6
  clear pf
  have C6' := hide' (seven_below C6.out HPCB.out (.int .i64 0) (.int .i64 0) (.int .i64 0) (.int .i64 0) (.int .i64 0) (.slice none 0 0) (.string ⟨#[]⟩))
  clear C6
  have C6 := C6'
  clear C6'
  have DB' := hide' (DB.out.keep (q := w4.heap.size) (by omega) (.int .i64 0) (.int .i64 0) (.int .i64 0) (.int .i64 0) (.int .i64 0) (.slice none 0 0) (.string ⟨#[]⟩))
  clear DB
  have DB := DB'
  clear DB'
  have CB' := hide' (CB.out.store (.int .i64 0) (.int .i64 0) (.int .i64 0) (.int .i64 0) (.int .i64 0) (.slice none 0 0) (.string ⟨#[]⟩))
  clear CB
  have CB := CB'
  clear CB'
  clear x0 x1 x2 x3 x4 x5 x6 y0 y1 y2 y3 y4 y5 y6 hlt6
  obtain ⟨x0, x1, x2, x3, x4, x5, x6⟩ := RA.out.next C6.out
  obtain ⟨y0, y1, y2, y3, y4, y5, y6⟩ := RBB.out.next C6.out
  go_wp2_with fail
  refine (err_some_true 1 _ (HG.out.below C6.out)).mono ?_
  rintro e w8 ⟨rfl, b⟩
  have C7 := hide' (C6.out.trans (b.mono C6.out.size))
  have CB' := hide' (CB.out.next b)
  clear CB
  have CB := CB'
  clear CB'
  have DB' := hide' (DB.out.next b)
  clear DB
  have DB := DB'
  clear DB'
  clear b x0 x1 x2 x3 x4 x5 x6 y0 y1 y2 y3 y4 y5 y6 C6
  obtain ⟨x0, x1, x2, x3, x4, x5, x6⟩ := RA.out.next C7.out
  obtain ⟨y0, y1, y2, y3, y4, y5, y6⟩ := RBB.out.next C7.out
  clear p0 p1 p2 p3 p4 p5 p6 pf0 pf1 pf2 pf3 pf4 pf5 pf6
  have hlt7 := DB.out.lt
  obtain ⟨p0, p1, p2, p3, p4, p5, p6, pf⟩ := DB.out
  have pf0 := pf 0
  have pf1 := pf 1
  have pf2 := pf 2
  have pf3 := pf 3
  have pf4 := pf 4
  have pf5 := pf 5
  have pf6 := pf 6
  clear pf
  have C7' := hide' (seven_below C7.out HPDB.out (.int .i64 0) (.int .i64 0) (.int .i64 0) (.int .i64 0) (.int .i64 0) (.slice none 0 0) (.string ⟨#[]⟩))
  clear C7
  have C7 := C7'
  clear C7'
  have CB' := hide' (CB.out.keep (q := (w5).heap.size) (by omega) (.int .i64 0) (.int .i64 0) (.int .i64 0) (.int .i64 0) (.int .i64 0) (.slice none 0 0) (.string ⟨#[]⟩))
  clear CB
  have CB := CB'
  clear CB'
  have DB' := hide' (DB.out.store (.int .i64 0) (.int .i64 0) (.int .i64 0) (.int .i64 0) (.int .i64 0) (.slice none 0 0) (.string ⟨#[]⟩))
  clear DB
  have DB := DB'
  clear DB'
  clear x0 x1 x2 x3 x4 x5 x6 y0 y1 y2 y3 y4 y5 y6 hlt7
  obtain ⟨x0, x1, x2, x3, x4, x5, x6⟩ := RA.out.next C7.out
  obtain ⟨y0, y1, y2, y3, y4, y5, y6⟩ := RBB.out.next C7.out
  obtain ⟨q0, q1, q2, q3, q4, q5, q6, qf⟩ := CB.out
  obtain ⟨r0, r1, r2, r3, r4, r5, r6, rf⟩ := DB.out
  go_wp2_with fail
  refine (same_zero _).mono ?_
  rintro e w9 ⟨rfl, b⟩
  clear q0 q1 q2 q3 q4 q5 q6 qf
  clear r0 r1 r2 r3 r4 r5 r6 rf
  have C8 := hide' (C7.out.trans (b.mono C7.out.size))
  have CB' := hide' (CB.out.next b)
  clear CB
  have CB := CB'
  clear CB'
  have DB' := hide' (DB.out.next b)
  clear DB
  have DB := DB'
  clear DB'
  clear b x0 x1 x2 x3 x4 x5 x6 y0 y1 y2 y3 y4 y5 y6 C7
  obtain ⟨x0, x1, x2, x3, x4, x5, x6⟩ := RA.out.next C8.out
  obtain ⟨y0, y1, y2, y3, y4, y5, y6⟩ := RBB.out.next C8.out
  clear p0 p1 p2 p3 p4 p5 p6 pf0 pf1 pf2 pf3 pf4 pf5 pf6
  go_wp2
  go_ret
  exact ⟨rfl, BB.out.trans (C8.out.mono BB.out.size)⟩

set_option maxRecDepth 100000 in
set_option maxHeartbeats 6400000 in
theorem law_makes_shape_full20 (S Ra : Nat) (Ta : List Int) (S' Rb : Nat) (Tb : List Int) (k : Int) (ta : Option Addr) (na ca : Nat) (tb : Option Addr) (nb cb : Nat) (w : World) (hg : Handle w) (hLa : LineOk S Ra Ta) (hTa : ArgP w Ta ta na ca) (hLb : LineOk S' Rb Tb) (hTb : ArgP w Tb tb nb cb) (hne : S ≠ S') (hk : (20 : Int) ≤ k) (hk2 : k ≤ 9223372036854775807) :
    Calls Tryd.prog 11 #[.agg #[.int .i64 2, .int .i64 0, .int .i64 0, .int .i64 (S : Int), .int .i64 (Ra : Int), .slice ta na ca, .string ⟨#[]⟩], .agg #[.int .i64 2, .int .i64 0, .int .i64 0, .int .i64 (S' : Int), .int .i64 (Rb : Int), .slice tb nb cb, .string ⟨#[]⟩], .int .i64 k] w fun e w' => e = .returned (.bool true) ∧ Below w.heap.size w w' := by
  obtain ⟨w1, hw1⟩ : ∃ w1, (w.alloc (.cells #[.int .i64 2, .int .i64 0, .int .i64 0, .int .i64 (S : Int), .int .i64 (Ra : Int), .slice ta na ca, .string ⟨#[]⟩] 24)).alloc (.cells #[.int .i64 2, .int .i64 0, .int .i64 0, .int .i64 (S' : Int), .int .i64 (Rb : Int), .slice tb nb cb, .string ⟨#[]⟩] 24) = w1 := ⟨_, rfl⟩
  have z1 : w1.heap.size = w.heap.size + 2 := by rw [← hw1]; simp
  have BB := hide' (show Below w.heap.size w w1 by rw [← hw1]; exact ((Below.refl _ _).alloc (Nat.le_refl _) _).alloc (by simp) _)
  have RA := hide' (show RB w.heap.size S Ra (.slice ta na ca) w1 by
    rw [← hw1]
    exact (RB.new w S Ra (.slice ta na ca) 24).block (Below.heap_alloc _ _ _ (by simp)))
  have RBB := hide' (show RB (w.heap.size + 1) S' Rb (.slice tb nb cb) w1 by
    have h := RB.new (w.alloc (.cells #[.int .i64 2, .int .i64 0, .int .i64 0, .int .i64 (S : Int), .int .i64 (Ra : Int), .slice ta na ca, .string ⟨#[]⟩] 24)) S' Rb (.slice tb nb cb) 24
    rw [World.size_alloc, hw1] at h
    exact h)
  have HG := hide' (hg.below BB.out)
  have AT := hide' (hTa.below BB.out)
  have HLa := hide' hLa
  have ra10 := hLa.r10
  have s2 := hLa.s2
  have s4 := hLa.s4
  have ATb := hide' (hTb.below BB.out)
  have HLb := hide' hLb
  have rb10 := hLb.r10
  have m1 : ((S : Int) != (S' : Int)) = true := by rw [bne_iff_ne]; omega
  have HNE := hide' hne
  clear hne
  clear hTb hLb
  clear hTa hLa
  have i1 : ¬ k < (Ra : Int) := by omega
  have i2 : ¬ k < 20 := by omega
  obtain ⟨kn, rfl⟩ : ∃ kn : Nat, k = (kn : Int) := ⟨k.toNat, by omega⟩
  have kr : Ra ≤ kn := by omega
  have KZ := hide' (show 4096 < S ^ (2 * kn + 1) from by
    have h1 : 2 ^ 41 ≤ 2 ^ (2 * kn + 1) := Nat.pow_le_pow_right (by omega) (by omega)
    have h2 : 2 ^ (2 * kn + 1) ≤ S ^ (2 * kn + 1) := Nat.pow_le_pow_left s2 _
    omega)
  have kb : kn ≤ 9223372036854775807 := by omega
  clear hg
  have C0 := hide' (Below.refl w1.heap.size w1)
  obtain ⟨x0, x1, x2, x3, x4, x5, x6⟩ := RA.out
  obtain ⟨y0, y1, y2, y3, y4, y5, y6⟩ := RBB.out
  go_enter Tryd.func11, Tryd.ntmps11
  go_wp2_with fail
  refine (fault_nil_line S Ra Ta ta na ca _ HLa.out (AT.out.below C0.out)).mono ?_
  rintro e w2 ⟨rfl, b⟩
  have C1 := hide' (C0.out.trans (b.mono C0.out.size))
  clear hw1
  clear b x0 x1 x2 x3 x4 x5 x6 y0 y1 y2 y3 y4 y5 y6 C0
  obtain ⟨x0, x1, x2, x3, x4, x5, x6⟩ := RA.out.next C1.out
  obtain ⟨y0, y1, y2, y3, y4, y5, y6⟩ := RBB.out.next C1.out
  go_wp2_with fail
  refine (fault_nil_line S' Rb Tb tb nb cb _ HLb.out (ATb.out.below C1.out)).mono ?_
  rintro e w3 ⟨rfl, b⟩
  have C2 := hide' (C1.out.trans (b.mono C1.out.size))
  clear b x0 x1 x2 x3 x4 x5 x6 y0 y1 y2 y3 y4 y5 y6 C1
  obtain ⟨x0, x1, x2, x3, x4, x5, x6⟩ := RA.out.next C2.out
  obtain ⟨y0, y1, y2, y3, y4, y5, y6⟩ := RBB.out.next C2.out
  go_wp2_with fail
  refine (compose_shape S Ra Ta S' Rb Tb ta na ca tb nb cb _ HLa.out (AT.out.below C2.out) HLb.out (ATb.out.below C2.out) HNE.out).mono ?_
  unfold RuleErr
  rintro e w4 ⟨rfl, b⟩
  have C3 := hide' (C2.out.trans (b.mono C2.out.size))
  have HPCB := hide' C3.out.size
  have C3' := hide' (C3.out.alloc C3.out.size (.cells #[.int .i64 0, .int .i64 0, .int .i64 0, .int .i64 0, .int .i64 0, .slice none 0 0, .string ⟨#[]⟩] 24))
  clear C3
  have C3 := C3'
  clear C3'
  have CB := hide' (S7.new w4 (.int .i64 0) (.int .i64 0) (.int .i64 0) (.int .i64 0) (.int .i64 0) (.slice none 0 0) (.string ⟨#[]⟩) 24)
  clear b x0 x1 x2 x3 x4 x5 x6 y0 y1 y2 y3 y4 y5 y6 C2
  obtain ⟨x0, x1, x2, x3, x4, x5, x6⟩ := RA.out.next C3.out
  obtain ⟨y0, y1, y2, y3, y4, y5, y6⟩ := RBB.out.next C3.out
  go_wp2_with fail
  refine (err_some_true 3 _ (HG.out.below C3.out)).mono ?_
  rintro e w5 ⟨rfl, b⟩
  have C4 := hide' (C3.out.trans (b.mono C3.out.size))
  have CB' := hide' (CB.out.next b)
  clear CB
  have CB := CB'
  clear CB'
  clear b x0 x1 x2 x3 x4 x5 x6 y0 y1 y2 y3 y4 y5 y6 C3
  obtain ⟨x0, x1, x2, x3, x4, x5, x6⟩ := RA.out.next C4.out
  obtain ⟨y0, y1, y2, y3, y4, y5, y6⟩ := RBB.out.next C4.out
  have pcl := CB.out.lt
  have HPDB := hide' C4.out.size
  have C4' := hide' (C4.out.alloc C4.out.size (.cells #[.int .i64 0, .int .i64 0, .int .i64 0, .int .i64 0, .int .i64 0, .slice none 0 0, .string ⟨#[]⟩] 24))
  clear C4
  have C4 := C4'
  clear C4'
  have DB := hide' (S7.new (w5) (.int .i64 0) (.int .i64 0) (.int .i64 0) (.int .i64 0) (.int .i64 0) (.slice none 0 0) (.string ⟨#[]⟩) 24)
  have CB' := hide' (CB.out.alloc (.cells #[.int .i64 0, .int .i64 0, .int .i64 0, .int .i64 0, .int .i64 0, .slice none 0 0, .string ⟨#[]⟩] 24))
  clear CB
  have CB := CB'
  clear CB'
  clear x0 x1 x2 x3 x4 x5 x6 y0 y1 y2 y3 y4 y5 y6
  obtain ⟨x0, x1, x2, x3, x4, x5, x6⟩ := RA.out.next C4.out
  obtain ⟨y0, y1, y2, y3, y4, y5, y6⟩ := RBB.out.next C4.out
  obtain ⟨q0, q1, q2, q3, q4, q5, q6, qf⟩ := CB.out
  obtain ⟨r0, r1, r2, r3, r4, r5, r6, rf⟩ := DB.out
  go_wp2_with fail
  refine (same_zero _).mono ?_
  rintro e w6 ⟨rfl, b⟩
  clear q0 q1 q2 q3 q4 q5 q6 qf
  clear r0 r1 r2 r3 r4 r5 r6 rf
  have C5 := hide' (C4.out.trans (b.mono C4.out.size))
  have CB' := hide' (CB.out.next b)
  clear CB
  have CB := CB'
  clear CB'
  have DB' := hide' (DB.out.next b)
  clear DB
  have DB := DB'
  clear DB'
  clear b x0 x1 x2 x3 x4 x5 x6 y0 y1 y2 y3 y4 y5 y6 C4
  obtain ⟨x0, x1, x2, x3, x4, x5, x6⟩ := RA.out.next C5.out
  obtain ⟨y0, y1, y2, y3, y4, y5, y6⟩ := RBB.out.next C5.out
  have pcl2 := CB.out.lt
  have pdl2 := DB.out.lt
  go_wp2_with fail
  refine (widen_full S Ra Ta kn ta na ca _ HLa.out (AT.out.below C5.out) kr kb KZ.out).mono ?_
  unfold RuleErr
  rintro e w7 ⟨rfl, b⟩
  have C6 := hide' (C5.out.trans (b.mono C5.out.size))
  have CB' := hide' (CB.out.next b)
  clear CB
  have CB := CB'
  clear CB'
  have DB' := hide' (DB.out.next b)
  clear DB
  have DB := DB'
  clear DB'
  clear b x0 x1 x2 x3 x4 x5 x6 y0 y1 y2 y3 y4 y5 y6 C5
  obtain ⟨x0, x1, x2, x3, x4, x5, x6⟩ := RA.out.next C6.out
  obtain ⟨y0, y1, y2, y3, y4, y5, y6⟩ := RBB.out.next C6.out
  have hlt6 := CB.out.lt
  obtain ⟨p0, p1, p2, p3, p4, p5, p6, pf⟩ := CB.out
  have pf0 := pf 0
  have pf1 := pf 1
  have pf2 := pf 2
  have pf3 := pf 3
  have pf4 := pf 4
  have pf5 := pf 5
  have pf6 := pf 6
  clear pf
  have C6' := hide' (seven_below C6.out HPCB.out (.int .i64 0) (.int .i64 0) (.int .i64 0) (.int .i64 0) (.int .i64 0) (.slice none 0 0) (.string ⟨#[]⟩))
  clear C6
  have C6 := C6'
  clear C6'
  have DB' := hide' (DB.out.keep (q := w4.heap.size) (by omega) (.int .i64 0) (.int .i64 0) (.int .i64 0) (.int .i64 0) (.int .i64 0) (.slice none 0 0) (.string ⟨#[]⟩))
  clear DB
  have DB := DB'
  clear DB'
  have CB' := hide' (CB.out.store (.int .i64 0) (.int .i64 0) (.int .i64 0) (.int .i64 0) (.int .i64 0) (.slice none 0 0) (.string ⟨#[]⟩))
  clear CB
  have CB := CB'
  clear CB'
  clear x0 x1 x2 x3 x4 x5 x6 y0 y1 y2 y3 y4 y5 y6 hlt6
  obtain ⟨x0, x1, x2, x3, x4, x5, x6⟩ := RA.out.next C6.out
  obtain ⟨y0, y1, y2, y3, y4, y5, y6⟩ := RBB.out.next C6.out
  go_wp2_with fail
  refine (err_some_true 4 _ (HG.out.below C6.out)).mono ?_
  rintro e w8 ⟨rfl, b⟩
  have C7 := hide' (C6.out.trans (b.mono C6.out.size))
  have CB' := hide' (CB.out.next b)
  clear CB
  have CB := CB'
  clear CB'
  have DB' := hide' (DB.out.next b)
  clear DB
  have DB := DB'
  clear DB'
  clear b x0 x1 x2 x3 x4 x5 x6 y0 y1 y2 y3 y4 y5 y6 C6
  obtain ⟨x0, x1, x2, x3, x4, x5, x6⟩ := RA.out.next C7.out
  obtain ⟨y0, y1, y2, y3, y4, y5, y6⟩ := RBB.out.next C7.out
  clear p0 p1 p2 p3 p4 p5 p6 pf0 pf1 pf2 pf3 pf4 pf5 pf6
  have hlt7 := DB.out.lt
  obtain ⟨p0, p1, p2, p3, p4, p5, p6, pf⟩ := DB.out
  have pf0 := pf 0
  have pf1 := pf 1
  have pf2 := pf 2
  have pf3 := pf 3
  have pf4 := pf 4
  have pf5 := pf 5
  have pf6 := pf 6
  clear pf
  have C7' := hide' (seven_below C7.out HPDB.out (.int .i64 0) (.int .i64 0) (.int .i64 0) (.int .i64 0) (.int .i64 0) (.slice none 0 0) (.string ⟨#[]⟩))
  clear C7
  have C7 := C7'
  clear C7'
  have CB' := hide' (CB.out.keep (q := (w5).heap.size) (by omega) (.int .i64 0) (.int .i64 0) (.int .i64 0) (.int .i64 0) (.int .i64 0) (.slice none 0 0) (.string ⟨#[]⟩))
  clear CB
  have CB := CB'
  clear CB'
  have DB' := hide' (DB.out.store (.int .i64 0) (.int .i64 0) (.int .i64 0) (.int .i64 0) (.int .i64 0) (.slice none 0 0) (.string ⟨#[]⟩))
  clear DB
  have DB := DB'
  clear DB'
  clear x0 x1 x2 x3 x4 x5 x6 y0 y1 y2 y3 y4 y5 y6 hlt7
  obtain ⟨x0, x1, x2, x3, x4, x5, x6⟩ := RA.out.next C7.out
  obtain ⟨y0, y1, y2, y3, y4, y5, y6⟩ := RBB.out.next C7.out
  obtain ⟨q0, q1, q2, q3, q4, q5, q6, qf⟩ := CB.out
  obtain ⟨r0, r1, r2, r3, r4, r5, r6, rf⟩ := DB.out
  go_wp2_with fail
  refine (same_zero _).mono ?_
  rintro e w9 ⟨rfl, b⟩
  clear q0 q1 q2 q3 q4 q5 q6 qf
  clear r0 r1 r2 r3 r4 r5 r6 rf
  have C8 := hide' (C7.out.trans (b.mono C7.out.size))
  have CB' := hide' (CB.out.next b)
  clear CB
  have CB := CB'
  clear CB'
  have DB' := hide' (DB.out.next b)
  clear DB
  have DB := DB'
  clear DB'
  clear b x0 x1 x2 x3 x4 x5 x6 y0 y1 y2 y3 y4 y5 y6 C7
  obtain ⟨x0, x1, x2, x3, x4, x5, x6⟩ := RA.out.next C8.out
  obtain ⟨y0, y1, y2, y3, y4, y5, y6⟩ := RBB.out.next C8.out
  clear p0 p1 p2 p3 p4 p5 p6 pf0 pf1 pf2 pf3 pf4 pf5 pf6
  go_wp2
  go_ret
  exact ⟨rfl, BB.out.trans (C8.out.mono BB.out.size)⟩

set_option maxRecDepth 100000 in
set_option maxHeartbeats 6400000 in
theorem law_makes_shape_full (S Ra : Nat) (Ta : List Int) (S' Rb : Nat) (Tb : List Int) (k : Nat) (ta : Option Addr) (na ca : Nat) (tb : Option Addr) (nb cb : Nat) (w : World) (hg : Handle w) (hLa : LineOk S Ra Ta) (hTa : ArgP w Ta ta na ca) (hLb : LineOk S' Rb Tb) (hTb : ArgP w Tb tb nb cb) (hne : S ≠ S') (hk : Ra ≤ k) (hk2 : k < 20) (hkz : 4096 < S ^ (2 * k + 1)) :
    Calls Tryd.prog 11 #[.agg #[.int .i64 2, .int .i64 0, .int .i64 0, .int .i64 (S : Int), .int .i64 (Ra : Int), .slice ta na ca, .string ⟨#[]⟩], .agg #[.int .i64 2, .int .i64 0, .int .i64 0, .int .i64 (S' : Int), .int .i64 (Rb : Int), .slice tb nb cb, .string ⟨#[]⟩], .int .i64 (k : Int)] w fun e w' => e = .returned (.bool true) ∧ Below w.heap.size w w' := by
  obtain ⟨w1, hw1⟩ : ∃ w1, (w.alloc (.cells #[.int .i64 2, .int .i64 0, .int .i64 0, .int .i64 (S : Int), .int .i64 (Ra : Int), .slice ta na ca, .string ⟨#[]⟩] 24)).alloc (.cells #[.int .i64 2, .int .i64 0, .int .i64 0, .int .i64 (S' : Int), .int .i64 (Rb : Int), .slice tb nb cb, .string ⟨#[]⟩] 24) = w1 := ⟨_, rfl⟩
  have z1 : w1.heap.size = w.heap.size + 2 := by rw [← hw1]; simp
  have BB := hide' (show Below w.heap.size w w1 by rw [← hw1]; exact ((Below.refl _ _).alloc (Nat.le_refl _) _).alloc (by simp) _)
  have RA := hide' (show RB w.heap.size S Ra (.slice ta na ca) w1 by
    rw [← hw1]
    exact (RB.new w S Ra (.slice ta na ca) 24).block (Below.heap_alloc _ _ _ (by simp)))
  have RBB := hide' (show RB (w.heap.size + 1) S' Rb (.slice tb nb cb) w1 by
    have h := RB.new (w.alloc (.cells #[.int .i64 2, .int .i64 0, .int .i64 0, .int .i64 (S : Int), .int .i64 (Ra : Int), .slice ta na ca, .string ⟨#[]⟩] 24)) S' Rb (.slice tb nb cb) 24
    rw [World.size_alloc, hw1] at h
    exact h)
  have HG := hide' (hg.below BB.out)
  have AT := hide' (hTa.below BB.out)
  have HLa := hide' hLa
  have ra10 := hLa.r10
  have s2 := hLa.s2
  have s4 := hLa.s4
  have ATb := hide' (hTb.below BB.out)
  have HLb := hide' hLb
  have rb10 := hLb.r10
  have m1 : ((S : Int) != (S' : Int)) = true := by rw [bne_iff_ne]; omega
  have HNE := hide' hne
  clear hne
  clear hTb hLb
  clear hTa hLa
  have i1 : ¬ (k : Int) < (Ra : Int) := by omega
  have i2 : (k : Int) < 20 := by omega
  have KZ := hide' hkz
  have SW := hide' (show sizeV S k = 5000 by unfold sizeV; rw [if_neg (by omega)])
  clear hkz
  clear hg
  have C0 := hide' (Below.refl w1.heap.size w1)
  obtain ⟨x0, x1, x2, x3, x4, x5, x6⟩ := RA.out
  obtain ⟨y0, y1, y2, y3, y4, y5, y6⟩ := RBB.out
  go_enter Tryd.func11, Tryd.ntmps11
  go_wp2_with fail
  refine (fault_nil_line S Ra Ta ta na ca _ HLa.out (AT.out.below C0.out)).mono ?_
  rintro e w2 ⟨rfl, b⟩
  have C1 := hide' (C0.out.trans (b.mono C0.out.size))
  clear hw1
  clear b x0 x1 x2 x3 x4 x5 x6 y0 y1 y2 y3 y4 y5 y6 C0
  obtain ⟨x0, x1, x2, x3, x4, x5, x6⟩ := RA.out.next C1.out
  obtain ⟨y0, y1, y2, y3, y4, y5, y6⟩ := RBB.out.next C1.out
  go_wp2_with fail
  refine (fault_nil_line S' Rb Tb tb nb cb _ HLb.out (ATb.out.below C1.out)).mono ?_
  rintro e w3 ⟨rfl, b⟩
  have C2 := hide' (C1.out.trans (b.mono C1.out.size))
  clear b x0 x1 x2 x3 x4 x5 x6 y0 y1 y2 y3 y4 y5 y6 C1
  obtain ⟨x0, x1, x2, x3, x4, x5, x6⟩ := RA.out.next C2.out
  obtain ⟨y0, y1, y2, y3, y4, y5, y6⟩ := RBB.out.next C2.out
  go_wp2_with fail
  refine (compose_shape S Ra Ta S' Rb Tb ta na ca tb nb cb _ HLa.out (AT.out.below C2.out) HLb.out (ATb.out.below C2.out) HNE.out).mono ?_
  unfold RuleErr
  rintro e w4 ⟨rfl, b⟩
  have C3 := hide' (C2.out.trans (b.mono C2.out.size))
  have HPCB := hide' C3.out.size
  have C3' := hide' (C3.out.alloc C3.out.size (.cells #[.int .i64 0, .int .i64 0, .int .i64 0, .int .i64 0, .int .i64 0, .slice none 0 0, .string ⟨#[]⟩] 24))
  clear C3
  have C3 := C3'
  clear C3'
  have CB := hide' (S7.new w4 (.int .i64 0) (.int .i64 0) (.int .i64 0) (.int .i64 0) (.int .i64 0) (.slice none 0 0) (.string ⟨#[]⟩) 24)
  clear b x0 x1 x2 x3 x4 x5 x6 y0 y1 y2 y3 y4 y5 y6 C2
  obtain ⟨x0, x1, x2, x3, x4, x5, x6⟩ := RA.out.next C3.out
  obtain ⟨y0, y1, y2, y3, y4, y5, y6⟩ := RBB.out.next C3.out
  go_wp2_with fail
  refine (err_some_true 3 _ (HG.out.below C3.out)).mono ?_
  rintro e w5 ⟨rfl, b⟩
  have C4 := hide' (C3.out.trans (b.mono C3.out.size))
  have CB' := hide' (CB.out.next b)
  clear CB
  have CB := CB'
  clear CB'
  clear b x0 x1 x2 x3 x4 x5 x6 y0 y1 y2 y3 y4 y5 y6 C3
  obtain ⟨x0, x1, x2, x3, x4, x5, x6⟩ := RA.out.next C4.out
  obtain ⟨y0, y1, y2, y3, y4, y5, y6⟩ := RBB.out.next C4.out
  have pcl := CB.out.lt
  have HPDB := hide' C4.out.size
  have C4' := hide' (C4.out.alloc C4.out.size (.cells #[.int .i64 0, .int .i64 0, .int .i64 0, .int .i64 0, .int .i64 0, .slice none 0 0, .string ⟨#[]⟩] 24))
  clear C4
  have C4 := C4'
  clear C4'
  have DB := hide' (S7.new (w5) (.int .i64 0) (.int .i64 0) (.int .i64 0) (.int .i64 0) (.int .i64 0) (.slice none 0 0) (.string ⟨#[]⟩) 24)
  have CB' := hide' (CB.out.alloc (.cells #[.int .i64 0, .int .i64 0, .int .i64 0, .int .i64 0, .int .i64 0, .slice none 0 0, .string ⟨#[]⟩] 24))
  clear CB
  have CB := CB'
  clear CB'
  clear x0 x1 x2 x3 x4 x5 x6 y0 y1 y2 y3 y4 y5 y6
  obtain ⟨x0, x1, x2, x3, x4, x5, x6⟩ := RA.out.next C4.out
  obtain ⟨y0, y1, y2, y3, y4, y5, y6⟩ := RBB.out.next C4.out
  obtain ⟨q0, q1, q2, q3, q4, q5, q6, qf⟩ := CB.out
  obtain ⟨r0, r1, r2, r3, r4, r5, r6, rf⟩ := DB.out
  go_wp2_with fail
  refine (same_zero _).mono ?_
  rintro e w6 ⟨rfl, b⟩
  clear q0 q1 q2 q3 q4 q5 q6 qf
  clear r0 r1 r2 r3 r4 r5 r6 rf
  have C5 := hide' (C4.out.trans (b.mono C4.out.size))
  have CB' := hide' (CB.out.next b)
  clear CB
  have CB := CB'
  clear CB'
  have DB' := hide' (DB.out.next b)
  clear DB
  have DB := DB'
  clear DB'
  clear b x0 x1 x2 x3 x4 x5 x6 y0 y1 y2 y3 y4 y5 y6 C4
  obtain ⟨x0, x1, x2, x3, x4, x5, x6⟩ := RA.out.next C5.out
  obtain ⟨y0, y1, y2, y3, y4, y5, y6⟩ := RBB.out.next C5.out
  go_wp2_with fail
  refine (refSize S k _ s2 s4 (by omega)).mono ?_
  rw [SW.out]
  rintro e w7 ⟨rfl, rfl⟩
  have C6 := C5
  clear C5
  have pcl2 := CB.out.lt
  have pdl2 := DB.out.lt
  go_wp2_with fail
  refine (widen_full S Ra Ta k ta na ca _ HLa.out (AT.out.below C6.out) hk (by omega) KZ.out).mono ?_
  unfold RuleErr
  rintro e w8 ⟨rfl, b⟩
  have C7 := hide' (C6.out.trans (b.mono C6.out.size))
  have CB' := hide' (CB.out.next b)
  clear CB
  have CB := CB'
  clear CB'
  have DB' := hide' (DB.out.next b)
  clear DB
  have DB := DB'
  clear DB'
  clear b x0 x1 x2 x3 x4 x5 x6 y0 y1 y2 y3 y4 y5 y6 C6
  obtain ⟨x0, x1, x2, x3, x4, x5, x6⟩ := RA.out.next C7.out
  obtain ⟨y0, y1, y2, y3, y4, y5, y6⟩ := RBB.out.next C7.out
  have hlt7 := CB.out.lt
  obtain ⟨p0, p1, p2, p3, p4, p5, p6, pf⟩ := CB.out
  have pf0 := pf 0
  have pf1 := pf 1
  have pf2 := pf 2
  have pf3 := pf 3
  have pf4 := pf 4
  have pf5 := pf 5
  have pf6 := pf 6
  clear pf
  have C7' := hide' (seven_below C7.out HPCB.out (.int .i64 0) (.int .i64 0) (.int .i64 0) (.int .i64 0) (.int .i64 0) (.slice none 0 0) (.string ⟨#[]⟩))
  clear C7
  have C7 := C7'
  clear C7'
  have DB' := hide' (DB.out.keep (q := w4.heap.size) (by omega) (.int .i64 0) (.int .i64 0) (.int .i64 0) (.int .i64 0) (.int .i64 0) (.slice none 0 0) (.string ⟨#[]⟩))
  clear DB
  have DB := DB'
  clear DB'
  have CB' := hide' (CB.out.store (.int .i64 0) (.int .i64 0) (.int .i64 0) (.int .i64 0) (.int .i64 0) (.slice none 0 0) (.string ⟨#[]⟩))
  clear CB
  have CB := CB'
  clear CB'
  clear x0 x1 x2 x3 x4 x5 x6 y0 y1 y2 y3 y4 y5 y6 hlt7
  obtain ⟨x0, x1, x2, x3, x4, x5, x6⟩ := RA.out.next C7.out
  obtain ⟨y0, y1, y2, y3, y4, y5, y6⟩ := RBB.out.next C7.out
  go_wp2_with fail
  refine (err_some_true 4 _ (HG.out.below C7.out)).mono ?_
  rintro e w9 ⟨rfl, b⟩
  have C8 := hide' (C7.out.trans (b.mono C7.out.size))
  have CB' := hide' (CB.out.next b)
  clear CB
  have CB := CB'
  clear CB'
  have DB' := hide' (DB.out.next b)
  clear DB
  have DB := DB'
  clear DB'
  clear b x0 x1 x2 x3 x4 x5 x6 y0 y1 y2 y3 y4 y5 y6 C7
  obtain ⟨x0, x1, x2, x3, x4, x5, x6⟩ := RA.out.next C8.out
  obtain ⟨y0, y1, y2, y3, y4, y5, y6⟩ := RBB.out.next C8.out
  clear p0 p1 p2 p3 p4 p5 p6 pf0 pf1 pf2 pf3 pf4 pf5 pf6
  have hlt8 := DB.out.lt
  obtain ⟨p0, p1, p2, p3, p4, p5, p6, pf⟩ := DB.out
  have pf0 := pf 0
  have pf1 := pf 1
  have pf2 := pf 2
  have pf3 := pf 3
  have pf4 := pf 4
  have pf5 := pf 5
  have pf6 := pf 6
  clear pf
  have C8' := hide' (seven_below C8.out HPDB.out (.int .i64 0) (.int .i64 0) (.int .i64 0) (.int .i64 0) (.int .i64 0) (.slice none 0 0) (.string ⟨#[]⟩))
  clear C8
  have C8 := C8'
  clear C8'
  have CB' := hide' (CB.out.keep (q := (w5).heap.size) (by omega) (.int .i64 0) (.int .i64 0) (.int .i64 0) (.int .i64 0) (.int .i64 0) (.slice none 0 0) (.string ⟨#[]⟩))
  clear CB
  have CB := CB'
  clear CB'
  have DB' := hide' (DB.out.store (.int .i64 0) (.int .i64 0) (.int .i64 0) (.int .i64 0) (.int .i64 0) (.slice none 0 0) (.string ⟨#[]⟩))
  clear DB
  have DB := DB'
  clear DB'
  clear x0 x1 x2 x3 x4 x5 x6 y0 y1 y2 y3 y4 y5 y6 hlt8
  obtain ⟨x0, x1, x2, x3, x4, x5, x6⟩ := RA.out.next C8.out
  obtain ⟨y0, y1, y2, y3, y4, y5, y6⟩ := RBB.out.next C8.out
  obtain ⟨q0, q1, q2, q3, q4, q5, q6, qf⟩ := CB.out
  obtain ⟨r0, r1, r2, r3, r4, r5, r6, rf⟩ := DB.out
  go_wp2_with fail
  refine (same_zero _).mono ?_
  rintro e w10 ⟨rfl, b⟩
  clear q0 q1 q2 q3 q4 q5 q6 qf
  clear r0 r1 r2 r3 r4 r5 r6 rf
  have C9 := hide' (C8.out.trans (b.mono C8.out.size))
  have CB' := hide' (CB.out.next b)
  clear CB
  have CB := CB'
  clear CB'
  have DB' := hide' (DB.out.next b)
  clear DB
  have DB := DB'
  clear DB'
  clear b x0 x1 x2 x3 x4 x5 x6 y0 y1 y2 y3 y4 y5 y6 C8
  obtain ⟨x0, x1, x2, x3, x4, x5, x6⟩ := RA.out.next C9.out
  obtain ⟨y0, y1, y2, y3, y4, y5, y6⟩ := RBB.out.next C9.out
  clear p0 p1 p2 p3 p4 p5 p6 pf0 pf1 pf2 pf3 pf4 pf5 pf6
  go_wp2
  go_ret
  exact ⟨rfl, BB.out.trans (C9.out.mono BB.out.size)⟩

set_option maxRecDepth 100000 in
set_option maxHeartbeats 6400000 in
theorem law_makes_shape_ok (S Ra : Nat) (Ta : List Int) (S' Rb : Nat) (Tb : List Int) (k : Nat) (ta : Option Addr) (na ca : Nat) (tb : Option Addr) (nb cb : Nat) (w : World) (hg : Handle w) (hLa : LineOk S Ra Ta) (hTa : ArgP w Ta ta na ca) (hLb : LineOk S' Rb Tb) (hTb : ArgP w Tb tb nb cb) (hne : S ≠ S') (hk : Ra ≤ k) (hk2 : k < 20) (hkz : S ^ (2 * k + 1) ≤ 4096) :
    Calls Tryd.prog 11 #[.agg #[.int .i64 2, .int .i64 0, .int .i64 0, .int .i64 (S : Int), .int .i64 (Ra : Int), .slice ta na ca, .string ⟨#[]⟩], .agg #[.int .i64 2, .int .i64 0, .int .i64 0, .int .i64 (S' : Int), .int .i64 (Rb : Int), .slice tb nb cb, .string ⟨#[]⟩], .int .i64 (k : Int)] w fun e w' => e = .returned (.bool true) ∧ Below w.heap.size w w' := by
  obtain ⟨w1, hw1⟩ : ∃ w1, (w.alloc (.cells #[.int .i64 2, .int .i64 0, .int .i64 0, .int .i64 (S : Int), .int .i64 (Ra : Int), .slice ta na ca, .string ⟨#[]⟩] 24)).alloc (.cells #[.int .i64 2, .int .i64 0, .int .i64 0, .int .i64 (S' : Int), .int .i64 (Rb : Int), .slice tb nb cb, .string ⟨#[]⟩] 24) = w1 := ⟨_, rfl⟩
  have z1 : w1.heap.size = w.heap.size + 2 := by rw [← hw1]; simp
  have BB := hide' (show Below w.heap.size w w1 by rw [← hw1]; exact ((Below.refl _ _).alloc (Nat.le_refl _) _).alloc (by simp) _)
  have RA := hide' (show RB w.heap.size S Ra (.slice ta na ca) w1 by
    rw [← hw1]
    exact (RB.new w S Ra (.slice ta na ca) 24).block (Below.heap_alloc _ _ _ (by simp)))
  have RBB := hide' (show RB (w.heap.size + 1) S' Rb (.slice tb nb cb) w1 by
    have h := RB.new (w.alloc (.cells #[.int .i64 2, .int .i64 0, .int .i64 0, .int .i64 (S : Int), .int .i64 (Ra : Int), .slice ta na ca, .string ⟨#[]⟩] 24)) S' Rb (.slice tb nb cb) 24
    rw [World.size_alloc, hw1] at h
    exact h)
  have HG := hide' (hg.below BB.out)
  have AT := hide' (hTa.below BB.out)
  have HLa := hide' hLa
  have ra10 := hLa.r10
  have s2 := hLa.s2
  have s4 := hLa.s4
  have ATb := hide' (hTb.below BB.out)
  have HLb := hide' hLb
  have rb10 := hLb.r10
  have m1 : ((S : Int) != (S' : Int)) = true := by rw [bne_iff_ne]; omega
  have HNE := hide' hne
  clear hne
  clear hTb hLb
  clear hTa hLa
  have i1 : ¬ (k : Int) < (Ra : Int) := by omega
  have i2 : (k : Int) < 20 := by omega
  have KZ := hide' hkz
  obtain ⟨n1, hn1⟩ : ∃ n1, sizeV S k = n1 := ⟨_, rfl⟩
  have SW := hide' hn1
  have n5 : ¬ (4096 : Int) < (n1 : Int) := by
    have : sizeV S k ≤ 4096 := by unfold sizeV; rw [if_pos hkz]; exact hkz
    omega
  clear hn1
  obtain ⟨GG, hGG⟩ : ∃ GG : List Int → Int, (fun ds : List Int => (applyL S Ra Ta ((ds.drop (k - Ra)).take (2 * Ra + 1))).getD 0 0) = GG := ⟨_, rfl⟩
  have GH := hide' hGG
  obtain ⟨UU, hUU⟩ : ∃ UU, madeL S k GG = UU := ⟨_, rfl⟩
  have UH := hide' hUU
  have UM := hide' (show UU.length ≤ maxLen by rw [← hUU]; exact madeL_small hkz)
  have UPo := hide' (show 0 < UU.length by rw [← hUU]; exact madeL_pos s2)
  clear hGG hUU
  clear hkz
  clear hg
  have C0 := hide' (Below.refl w1.heap.size w1)
  obtain ⟨x0, x1, x2, x3, x4, x5, x6⟩ := RA.out
  obtain ⟨y0, y1, y2, y3, y4, y5, y6⟩ := RBB.out
  go_enter Tryd.func11, Tryd.ntmps11
  go_wp2_with fail
  refine (fault_nil_line S Ra Ta ta na ca _ HLa.out (AT.out.below C0.out)).mono ?_
  rintro e w2 ⟨rfl, b⟩
  have C1 := hide' (C0.out.trans (b.mono C0.out.size))
  clear hw1
  clear b x0 x1 x2 x3 x4 x5 x6 y0 y1 y2 y3 y4 y5 y6 C0
  obtain ⟨x0, x1, x2, x3, x4, x5, x6⟩ := RA.out.next C1.out
  obtain ⟨y0, y1, y2, y3, y4, y5, y6⟩ := RBB.out.next C1.out
  go_wp2_with fail
  refine (fault_nil_line S' Rb Tb tb nb cb _ HLb.out (ATb.out.below C1.out)).mono ?_
  rintro e w3 ⟨rfl, b⟩
  have C2 := hide' (C1.out.trans (b.mono C1.out.size))
  clear b x0 x1 x2 x3 x4 x5 x6 y0 y1 y2 y3 y4 y5 y6 C1
  obtain ⟨x0, x1, x2, x3, x4, x5, x6⟩ := RA.out.next C2.out
  obtain ⟨y0, y1, y2, y3, y4, y5, y6⟩ := RBB.out.next C2.out
  go_wp2_with fail
  refine (compose_shape S Ra Ta S' Rb Tb ta na ca tb nb cb _ HLa.out (AT.out.below C2.out) HLb.out (ATb.out.below C2.out) HNE.out).mono ?_
  unfold RuleErr
  rintro e w4 ⟨rfl, b⟩
  have C3 := hide' (C2.out.trans (b.mono C2.out.size))
  have HPCB := hide' C3.out.size
  have C3' := hide' (C3.out.alloc C3.out.size (.cells #[.int .i64 0, .int .i64 0, .int .i64 0, .int .i64 0, .int .i64 0, .slice none 0 0, .string ⟨#[]⟩] 24))
  clear C3
  have C3 := C3'
  clear C3'
  have CB := hide' (S7.new w4 (.int .i64 0) (.int .i64 0) (.int .i64 0) (.int .i64 0) (.int .i64 0) (.slice none 0 0) (.string ⟨#[]⟩) 24)
  clear b x0 x1 x2 x3 x4 x5 x6 y0 y1 y2 y3 y4 y5 y6 C2
  obtain ⟨x0, x1, x2, x3, x4, x5, x6⟩ := RA.out.next C3.out
  obtain ⟨y0, y1, y2, y3, y4, y5, y6⟩ := RBB.out.next C3.out
  go_wp2_with fail
  refine (err_some_true 3 _ (HG.out.below C3.out)).mono ?_
  rintro e w5 ⟨rfl, b⟩
  have C4 := hide' (C3.out.trans (b.mono C3.out.size))
  have CB' := hide' (CB.out.next b)
  clear CB
  have CB := CB'
  clear CB'
  clear b x0 x1 x2 x3 x4 x5 x6 y0 y1 y2 y3 y4 y5 y6 C3
  obtain ⟨x0, x1, x2, x3, x4, x5, x6⟩ := RA.out.next C4.out
  obtain ⟨y0, y1, y2, y3, y4, y5, y6⟩ := RBB.out.next C4.out
  have pcl := CB.out.lt
  have HPDB := hide' C4.out.size
  have C4' := hide' (C4.out.alloc C4.out.size (.cells #[.int .i64 0, .int .i64 0, .int .i64 0, .int .i64 0, .int .i64 0, .slice none 0 0, .string ⟨#[]⟩] 24))
  clear C4
  have C4 := C4'
  clear C4'
  have DB := hide' (S7.new (w5) (.int .i64 0) (.int .i64 0) (.int .i64 0) (.int .i64 0) (.int .i64 0) (.slice none 0 0) (.string ⟨#[]⟩) 24)
  have CB' := hide' (CB.out.alloc (.cells #[.int .i64 0, .int .i64 0, .int .i64 0, .int .i64 0, .int .i64 0, .slice none 0 0, .string ⟨#[]⟩] 24))
  clear CB
  have CB := CB'
  clear CB'
  clear x0 x1 x2 x3 x4 x5 x6 y0 y1 y2 y3 y4 y5 y6
  obtain ⟨x0, x1, x2, x3, x4, x5, x6⟩ := RA.out.next C4.out
  obtain ⟨y0, y1, y2, y3, y4, y5, y6⟩ := RBB.out.next C4.out
  obtain ⟨q0, q1, q2, q3, q4, q5, q6, qf⟩ := CB.out
  obtain ⟨r0, r1, r2, r3, r4, r5, r6, rf⟩ := DB.out
  go_wp2_with fail
  refine (same_zero _).mono ?_
  rintro e w6 ⟨rfl, b⟩
  clear q0 q1 q2 q3 q4 q5 q6 qf
  clear r0 r1 r2 r3 r4 r5 r6 rf
  have C5 := hide' (C4.out.trans (b.mono C4.out.size))
  have CB' := hide' (CB.out.next b)
  clear CB
  have CB := CB'
  clear CB'
  have DB' := hide' (DB.out.next b)
  clear DB
  have DB := DB'
  clear DB'
  clear b x0 x1 x2 x3 x4 x5 x6 y0 y1 y2 y3 y4 y5 y6 C4
  obtain ⟨x0, x1, x2, x3, x4, x5, x6⟩ := RA.out.next C5.out
  obtain ⟨y0, y1, y2, y3, y4, y5, y6⟩ := RBB.out.next C5.out
  go_wp2_with fail
  refine (refSize S k _ s2 s4 (by omega)).mono ?_
  rw [SW.out]
  rintro e w7 ⟨rfl, rfl⟩
  have C6 := C5
  clear C5
  have pcl2 := CB.out.lt
  have pdl2 := DB.out.lt
  have KW := hide' (widen_ok S Ra Ta k ta na ca _ HLa.out (AT.out.below C6.out) hk KZ.out)
  rw [GH.out, UH.out] at KW
  go_wp2_with fail
  refine (KW.out).mono ?_
  rintro e w8 ⟨g8, N8, rfl, hN8, hg8, ce8, b⟩
  have C7 := hide' (C6.out.trans (b.mono C6.out.size))
  have CB' := hide' (CB.out.next b)
  clear CB
  have CB := CB'
  clear CB'
  have DB' := hide' (DB.out.next b)
  clear DB
  have DB := DB'
  clear DB'
  subst hN8
  have TU := hide' ce8.reads
  have ul := ce8.lt
  have GU := hide' (show ∀ g, (some ⟨g8, 0, none⟩ : Option Addr) = some ⟨g, 0, none⟩ → g = g8 from fun g e => by injection e with e; injection e with e; exact e.symm)
  clear ce8 KW
  clear b x0 x1 x2 x3 x4 x5 x6 y0 y1 y2 y3 y4 y5 y6 C6
  obtain ⟨x0, x1, x2, x3, x4, x5, x6⟩ := RA.out.next C7.out
  obtain ⟨y0, y1, y2, y3, y4, y5, y6⟩ := RBB.out.next C7.out
  have hlt7 := CB.out.lt
  obtain ⟨p0, p1, p2, p3, p4, p5, p6, pf⟩ := CB.out
  have pf0 := pf 0
  have pf1 := pf 1
  have pf2 := pf 2
  have pf3 := pf 3
  have pf4 := pf 4
  have pf5 := pf 5
  have pf6 := pf 6
  clear pf
  have C7' := hide' (seven_below C7.out HPCB.out (.int .i64 2) (.int .i64 0) (.int .i64 0) (.int .i64 (S : Int)) (.int .i64 (k : Int)) (.slice (some ⟨g8, 0, none⟩) UU.length UU.length) (.string ⟨#[]⟩))
  clear C7
  have C7 := C7'
  clear C7'
  have DB' := hide' (DB.out.keep (q := w4.heap.size) (by omega) (.int .i64 2) (.int .i64 0) (.int .i64 0) (.int .i64 (S : Int)) (.int .i64 (k : Int)) (.slice (some ⟨g8, 0, none⟩) UU.length UU.length) (.string ⟨#[]⟩))
  clear DB
  have DB := DB'
  clear DB'
  have TU' := hide' (reads_seven (p := w4.heap.size) TU.out (fun g e => by have := GU.out g e; omega) (.int .i64 2) (.int .i64 0) (.int .i64 0) (.int .i64 (S : Int)) (.int .i64 (k : Int)) (.slice (some ⟨g8, 0, none⟩) UU.length UU.length) (.string ⟨#[]⟩))
  clear TU
  have TU := TU'
  clear TU'
  have CB' := hide' (CB.out.store (.int .i64 2) (.int .i64 0) (.int .i64 0) (.int .i64 (S : Int)) (.int .i64 (k : Int)) (.slice (some ⟨g8, 0, none⟩) UU.length UU.length) (.string ⟨#[]⟩))
  clear CB
  have CB := CB'
  clear CB'
  clear x0 x1 x2 x3 x4 x5 x6 y0 y1 y2 y3 y4 y5 y6 hlt7
  obtain ⟨x0, x1, x2, x3, x4, x5, x6⟩ := RA.out.next C7.out
  obtain ⟨y0, y1, y2, y3, y4, y5, y6⟩ := RBB.out.next C7.out
  go_wp2_with fail
  refine (err_nil_true _).mono ?_
  rintro e w9 ⟨rfl, b⟩
  have C8 := hide' (C7.out.trans (b.mono C7.out.size))
  have CB' := hide' (CB.out.next b)
  clear CB
  have CB := CB'
  clear CB'
  have DB' := hide' (DB.out.next b)
  clear DB
  have DB := DB'
  clear DB'
  have TU' := hide' (TU.out.below b)
  clear TU
  have TU := TU'
  clear TU'
  clear b x0 x1 x2 x3 x4 x5 x6 y0 y1 y2 y3 y4 y5 y6 C7
  obtain ⟨x0, x1, x2, x3, x4, x5, x6⟩ := RA.out.next C8.out
  obtain ⟨y0, y1, y2, y3, y4, y5, y6⟩ := RBB.out.next C8.out
  clear p0 p1 p2 p3 p4 p5 p6 pf0 pf1 pf2 pf3 pf4 pf5 pf6
  have hlt8 := DB.out.lt
  obtain ⟨p0, p1, p2, p3, p4, p5, p6, pf⟩ := DB.out
  have pf0 := pf 0
  have pf1 := pf 1
  have pf2 := pf 2
  have pf3 := pf 3
  have pf4 := pf 4
  have pf5 := pf 5
  have pf6 := pf 6
  clear pf
  have C8' := hide' (seven_below C8.out HPDB.out (.int .i64 0) (.int .i64 0) (.int .i64 0) (.int .i64 0) (.int .i64 0) (.slice none 0 0) (.string ⟨#[]⟩))
  clear C8
  have C8 := C8'
  clear C8'
  have CB' := hide' (CB.out.keep (q := (w5).heap.size) (by omega) (.int .i64 0) (.int .i64 0) (.int .i64 0) (.int .i64 0) (.int .i64 0) (.slice none 0 0) (.string ⟨#[]⟩))
  clear CB
  have CB := CB'
  clear CB'
  have TU' := hide' (reads_seven (p := (w5).heap.size) TU.out (fun g e => by have := GU.out g e; omega) (.int .i64 0) (.int .i64 0) (.int .i64 0) (.int .i64 0) (.int .i64 0) (.slice none 0 0) (.string ⟨#[]⟩))
  clear TU
  have TU := TU'
  clear TU'
  have DB' := hide' (DB.out.store (.int .i64 0) (.int .i64 0) (.int .i64 0) (.int .i64 0) (.int .i64 0) (.slice none 0 0) (.string ⟨#[]⟩))
  clear DB
  have DB := DB'
  clear DB'
  clear x0 x1 x2 x3 x4 x5 x6 y0 y1 y2 y3 y4 y5 y6 hlt8
  obtain ⟨x0, x1, x2, x3, x4, x5, x6⟩ := RA.out.next C8.out
  obtain ⟨y0, y1, y2, y3, y4, y5, y6⟩ := RBB.out.next C8.out
  have KX := hide' (refWiden S Ra k Ta ta na ca _ HLa.out (AT.out.below C8.out) hk KZ.out)
  rw [GH.out, UH.out] at KX
  have pdl3 := DB.out.lt
  go_wp2_with fail
  refine (KX.out).mono ?_
  rintro e w10 ⟨a10, d10, rfl, rd10, rg10, b⟩
  have C9 := hide' (C8.out.trans (b.mono C8.out.size))
  have CB' := hide' (CB.out.next b)
  clear CB
  have CB := CB'
  clear CB'
  have DB' := hide' (DB.out.next b)
  clear DB
  have DB := DB'
  clear DB'
  have TU' := hide' (TU.out.below b)
  clear TU
  have TU := TU'
  clear TU'
  have TX := hide' rd10
  have GX := hide' rg10
  clear rd10 rg10 KX
  clear b x0 x1 x2 x3 x4 x5 x6 y0 y1 y2 y3 y4 y5 y6 C8
  obtain ⟨x0, x1, x2, x3, x4, x5, x6⟩ := RA.out.next C9.out
  obtain ⟨y0, y1, y2, y3, y4, y5, y6⟩ := RBB.out.next C9.out
  clear p0 p1 p2 p3 p4 p5 p6 pf0 pf1 pf2 pf3 pf4 pf5 pf6
  have hlt9 := DB.out.lt
  obtain ⟨p0, p1, p2, p3, p4, p5, p6, pf⟩ := DB.out
  have pf0 := pf 0
  have pf1 := pf 1
  have pf2 := pf 2
  have pf3 := pf 3
  have pf4 := pf 4
  have pf5 := pf 5
  have pf6 := pf 6
  clear pf
  have C9' := hide' (seven_below C9.out HPDB.out (.int .i64 2) (.int .i64 0) (.int .i64 0) (.int .i64 (S : Int)) (.int .i64 (k : Int)) (.slice a10 UU.length d10) (.string ⟨#[]⟩))
  clear C9
  have C9 := C9'
  clear C9'
  have CB' := hide' (CB.out.keep (q := (w5).heap.size) (by omega) (.int .i64 2) (.int .i64 0) (.int .i64 0) (.int .i64 (S : Int)) (.int .i64 (k : Int)) (.slice a10 UU.length d10) (.string ⟨#[]⟩))
  clear CB
  have CB := CB'
  clear CB'
  have TU' := hide' (reads_seven (p := (w5).heap.size) TU.out (fun g e => by have := GU.out g e; omega) (.int .i64 2) (.int .i64 0) (.int .i64 0) (.int .i64 (S : Int)) (.int .i64 (k : Int)) (.slice a10 UU.length d10) (.string ⟨#[]⟩))
  clear TU
  have TU := TU'
  clear TU'
  have TX' := hide' (reads_seven (p := (w5).heap.size) TX.out (fun g e => by have := GX.out g e; omega) (.int .i64 2) (.int .i64 0) (.int .i64 0) (.int .i64 (S : Int)) (.int .i64 (k : Int)) (.slice a10 UU.length d10) (.string ⟨#[]⟩))
  clear TX
  have TX := TX'
  clear TX'
  have DB' := hide' (DB.out.store (.int .i64 2) (.int .i64 0) (.int .i64 0) (.int .i64 (S : Int)) (.int .i64 (k : Int)) (.slice a10 UU.length d10) (.string ⟨#[]⟩))
  clear DB
  have DB := DB'
  clear DB'
  clear x0 x1 x2 x3 x4 x5 x6 y0 y1 y2 y3 y4 y5 y6 hlt9
  obtain ⟨x0, x1, x2, x3, x4, x5, x6⟩ := RA.out.next C9.out
  obtain ⟨y0, y1, y2, y3, y4, y5, y6⟩ := RBB.out.next C9.out
  obtain ⟨q0, q1, q2, q3, q4, q5, q6, qf⟩ := CB.out
  obtain ⟨r0, r1, r2, r3, r4, r5, r6, rf⟩ := DB.out
  go_wp2_with fail
  refine (same_line S k UU _ _ _ _ _ UM.out TU.out TX.out).mono ?_
  rintro e w11 ⟨rfl, b⟩
  clear q0 q1 q2 q3 q4 q5 q6 qf
  clear r0 r1 r2 r3 r4 r5 r6 rf
  have C10 := hide' (C9.out.trans (b.mono C9.out.size))
  have CB' := hide' (CB.out.next b)
  clear CB
  have CB := CB'
  clear CB'
  have DB' := hide' (DB.out.next b)
  clear DB
  have DB := DB'
  clear DB'
  have TU' := hide' (TU.out.below b)
  clear TU
  have TU := TU'
  clear TU'
  have TX' := hide' (TX.out.below b)
  clear TX
  have TX := TX'
  clear TX'
  clear b x0 x1 x2 x3 x4 x5 x6 y0 y1 y2 y3 y4 y5 y6 C9
  obtain ⟨x0, x1, x2, x3, x4, x5, x6⟩ := RA.out.next C10.out
  obtain ⟨y0, y1, y2, y3, y4, y5, y6⟩ := RBB.out.next C10.out
  clear p0 p1 p2 p3 p4 p5 p6 pf0 pf1 pf2 pf3 pf4 pf5 pf6
  go_wp2
  go_ret
  exact ⟨rfl, BB.out.trans (C10.out.mono BB.out.size)⟩
end Go.Proofs.YtjngjnkecnnmeaaDoor

