/-
  What the last text of this claim leans on, part 47: Hq5, Hq6.
-/
import Derived.Test.YtemhcpldflcfbaaGreatDoorZj46
import Derived.Test.YtemhcpldflcfbaaGreatDoorZj26
import Derived.Test.YtemhcpldflcfbaaGreatDoorZj28
namespace Go.Proofs.YtemhcpldflcfbaaGreatDoor
open Go.RowKit
set_option linter.unusedVariables false
def putK (kn : Nat → Nat → Int) (i : Nat) (l u r d : Int) (a b : Nat) : Int := if a = i then (if b = 0 then l else if b = 1 then u else if b = 2 then r else d) else kn a b
theorem KnB.ext {w : World} {kb N : Nat} {kn kn' : Nat → Nat → Int} (h : KnB w kb N kn) (e : ∀ a b, b < 4 → kn a b = kn' a b) : KnB w kb N kn' := by
 unfold KnB at *
 rw [h]
 congr 2
 exact arrF_ext fun q _ => by rw [e _ _ (by omega)]
theorem KnB.put {w : World} {kb N : Nat} {kn : Nat → Nat → Int} (h : KnB w kb N kn) (i : Nat) (l u r d : Int) : KnB ((((w.setCell ⟨kb, i * 4, none⟩ (.int .i64 l)).setCell ⟨kb, i * 4 + 1, none⟩ (.int .i64 u)).setCell ⟨kb, i * 4 + 2, none⟩ (.int .i64 r)).setCell ⟨kb, i * 4 + 3, none⟩ (.int .i64 d)) kb N (putK kn i l u r d) := by
 refine ((((h.set i 0 (by omega) l).set i 1 (by omega) u).set i 2 (by omega) r).set i 3 (by omega) d).ext fun a b hb => ?_
 unfold putK
 by_cases e : a = i
 ·subst e
  have : b = 0 ∨ b = 1 ∨ b = 2 ∨ b = 3 := by omega
  rcases this with rfl | rfl | rfl | rfl <;> simp
 ·simp [e]
theorem KnR.put {qs : List Sq} {N : Nat} {kn : Nat → Nat → Int} (h : KnR qs N kn) {n t : Nat} (t0 : t ≠ 0) (hw : WFQ qs n t) {l u r d : Int} (hb : BxF (valQ qs n t) l u r d) : KnR qs N (putK kn t l u r d) := fun i hi => by
 by_cases e : i = t
 ·subst e
  refine Or.inr ⟨t0, n, hw, ?_⟩
  unfold putK
  simpa using hb
 ·rcases h i hi with q | ⟨q0, m, q1, q2⟩
  ·exact Or.inl fun j hj => by unfold putK; rw [if_neg e]; exact q j hj
  ·refine Or.inr ⟨q0, m, q1, ?_⟩
   unfold putK
   simpa [e] using q2
theorem four_elseK {w : World} {g k o1 o2 o3 o4 : Nat} (hk : k ≠ g) (x0 x1 x2 x3 : Value) : ((((w.setCell ⟨g, o1, none⟩ x0).setCell ⟨g, o2, none⟩ x1).setCell ⟨g, o3, none⟩ x2).setCell ⟨g, o4, none⟩ x3).heap[k]? = w.heap[k]? := by
 rw [Below.heap_setCell _ _ _ _ (by simpa using hk), Below.heap_setCell _ _ _ _ (by simpa using hk), Below.heap_setCell _ _ _ _ (by simpa using hk), Below.heap_setCell _ _ _ _ (by simpa using hk)]
set_option maxRecDepth 100000 in
set_option maxHeartbeats 12800000 in
theorem of_eight (bb sb B g cap kb : Nat) (qs : List Sq) (kn : Nat → Nat → Int) (t : Nat) (w : World) (h : BoA w bb sb B g cap kb qs kn) (hw : WFQ qs 0 t) (t0 : t ≠ 0) (hq : qs.length ≤ 2000000) (hk : ∀ j, j < 4 → kn t j = 0) :
  Calls Tryz.prog 68 #[.pointer (some ⟨bb, 0, none⟩), .int .i32 (t : Int), .int .i64 3] w (OfP bb sb B g cap kb qs 0 t w) := by
 have lt := hw.lt h.stk.st
 have HB := hide' h
 have KBL := hide' (lt_of_block h.kno)
 have HW := hide' (And.intro hw t0)
 obtain ⟨rb, hrb⟩ : ∃ x, w.heap.size = x := ⟨_, rfl⟩
 have HRB := hide' hrb
 obtain ⟨w1, hw1⟩ : ∃ x, w.alloc (.cells #[.int .i64 0, .int .i64 0, .int .i64 0, .int .i64 0] 99) = x := ⟨_, rfl⟩
 have HW1 := hide' hw1
 have B1 := hide' (show Below w.heap.size w w1 by rw [← hw1]; exact (Below.refl _ _).alloc (Nat.le_refl _) _)
 have R1 := hide' (show w1.heap[rb]? = some (.cells #[.int .i64 0, .int .i64 0, .int .i64 0, .int .i64 0] 99 (0, 0)) by rw [← hw1, ← hrb]; exact heap_alloc_new _ _)
 have A1 := hide' (h.below B1.out)
 have b1 := cell_of_row w1 bb 1 _ _ _ A1.out.blk
 have b0 := cell_of_row w1 bb 0 _ _ _ A1.out.blk
 have k0 := A1.out.kno.cell lt (j := 0) (by omega)
 have k1 := A1.out.kno.cell lt (j := 1) (by omega)
 have k2 := A1.out.kno.cell lt (j := 2) (by omega)
 have k3 := A1.out.kno.cell lt (j := 3) (by omega)
 rw [hk 0 (by omega)] at k0
 rw [hk 1 (by omega)] at k1
 rw [hk 2 (by omega)] at k2
 rw [hk 3 (by omega)] at k3
 have c0 := A1.out.stk.c0
 obtain ⟨s0, s1, s2, s3, s4, s5⟩ := A1.out.stk.cells lt
 obtain ⟨Q, hQ⟩ : ∃ Q, sqA qs t = Q := ⟨_, rfl⟩
 rw [hQ] at s0 s1 s2 s3 s4 s5
 have KK := hide' (show Q.k ≠ 0 ∧ Q.k < 18446744073709551616 by
  rw [← hQ]
  rcases hw with q | q
  ·exact absurd q t0
  ·exact ⟨q.2.1, q.2.2⟩)
 have VK := hide' (show ∀ (l u r d : Int), BxF (bitQ Q.k) l u r d → BxF (valQ qs 0 t) l u r d from fun l u r d q => by
  have : valQ qs 0 t = bitQ Q.k := by funext x y; show bitQ (sqA qs t).k x y = _; rw [hQ]
  rw [this]; exact q)
 simp at b0 b1 k0
 obtain ⟨N, hN⟩ : ∃ x, qs.length = x := ⟨_, rfl⟩
 have HN := hide' hN
 rw [hN] at b1 c0 lt
 have LT := hide' lt
 have l1 : (t : Int) < (N : Int) := by omega
 have se : ∀ w, (Op.equalIn 10000 99 (.agg #[.int .i64 0, .int .i64 0, .int .i64 0, .int .i64 0]) (.agg #[.int .i64 0, .int .i64 0, .int .i64 0, .int .i64 0])).run Tryz.prog w = .ok true w := fun w => by
  rw [span_eq]
  simp
 obtain ⟨qb, hqb⟩ : ∃ x, w1.heap.size = x := ⟨_, rfl⟩
 obtain ⟨w2, hw2⟩ : ∃ x, w1.alloc (.cells #[.int .i32 (Q.a : Int), .int .i32 (Q.b : Int), .int .i32 (Q.c : Int), .int .i32 (Q.d : Int), .int .u64 (Q.k : Int), .int .i64 Q.l] 90) = x := ⟨_, rfl⟩
 have HW2 := hide' hw2
 have HQB := hide' hqb
 have B2 := hide' (show Below w.heap.size w w2 by rw [← hw2]; exact B1.out.alloc B1.out.size _)
 have B12 := hide' (show Below w1.heap.size w1 w2 by rw [← hw2]; exact (Below.refl _ _).alloc (Nat.le_refl _) _)
 have Q2 := hide' (show w2.heap[qb]? = some (.cells #[.int .i32 (Q.a : Int), .int .i32 (Q.b : Int), .int .i32 (Q.c : Int), .int .i32 (Q.d : Int), .int .u64 (Q.k : Int), .int .i64 Q.l] 90 (0, 0)) by rw [← hw2, ← hqb]; exact heap_alloc_new _ _)
 have R2 := hide' ((B12.out.block rb (lt_of_block R1.out)).trans R1.out)
 have A2 := hide' (A1.out.below B12.out)
 clear h hw t0 hq hk hrb hw1 lt hN hQ hw2 hqb
 go_enter Tryz.func68, Tryz.ntmps68
 go_upto_region 1 with fail
 rw [HW1.out, HRB.out]
 go_upto_region 4 with fail
 rw [HW2.out, HQB.out]
 clear b0 b1 c0 s0 s1 s2 s3 s4 s5 k0 k1 k2 k3
 have q4 := cell_of_row w2 qb 4 _ _ _ Q2.out
 have b1 := cell_of_row w2 bb 1 _ _ _ A2.out.blk
 simp at q4 b1
 rw [HN.out] at b1
 have SC := hide' (span_any Q.k w2.drew KK.out.1 KK.out.2 (fun V hV => A2.out.tz.keepW (hV.block _ (tz_lt A2.out.tz))))
 go_upto_region 5 with fail
 go_region_with (go_at_call 100; refine SC.out.mono ?_; rintro o w3 ⟨l, u, r, d, rfl, lr, bx, b3⟩; have A3 := hide' (show BoA w3 bb sb B g cap kb qs kn from A2.out.below ⟨b3.os, b3.tape, b3.output, b3.size, b3.block⟩); have z0 := A3.out.kno.cell (HN.out.symm ▸ LT.out) (j := 0) (by omega); have z1 := A3.out.kno.cell (HN.out.symm ▸ LT.out) (j := 1) (by omega); have z2 := A3.out.kno.cell (HN.out.symm ▸ LT.out) (j := 2) (by omega); have z3 := A3.out.kno.cell (HN.out.symm ▸ LT.out) (j := 3) (by omega); have y0 := frozen_of_row w3 kb (t * 4) _ _ A3.out.kno; have y1 := frozen_of_row w3 kb (t * 4 + 1) _ _ A3.out.kno; have y2 := frozen_of_row w3 kb (t * 4 + 2) _ _ A3.out.kno; have y3 := frozen_of_row w3 kb (t * 4 + 3) _ _ A3.out.kno; have g1 := cell_of_row w3 bb 1 _ _ _ A3.out.blk; simp at z0 g1; rw [HN.out] at g1)
 all_goals
  obtain ⟨X, hX⟩ : ∃ X, (((w3.setCell ⟨kb, t * 4, none⟩ (.int .i64 (l : Int))).setCell ⟨kb, t * 4 + 1, none⟩ (.int .i64 (u : Int))).setCell ⟨kb, t * 4 + 2, none⟩ (.int .i64 (r : Int))).setCell ⟨kb, t * 4 + 3, none⟩ (.int .i64 (d : Int)) = X := ⟨_, rfl⟩
  rw [hX]
  have KX := hide' (show KpW kb w X from by
   rw [← hX]
   exact ((((KpW.of_below (B2.out.trans ⟨b3.os, b3.tape, b3.output, Nat.le_trans (Nat.le_refl _) b3.size, fun q hq => b3.block q (by have := B2.out.size; show q < w2.heap.size; omega)⟩)).set _).set _).set _).set _)
  have NX := hide' (show KnB X kb qs.length (putK kn t (l : Int) (u : Int) (r : Int) (d : Int)) by rw [← hX]; exact A3.out.kno.put t _ _ _ _)
  have VB := hide' (VK.out _ _ _ _ bx)
  have AX := hide' (HB.out.keep KX.out NX.out (HB.out.rig.put HW.out.2 HW.out.1 VB.out))
  have RX := hide' (show X.heap[rb]? = some (.cells #[.int .i64 0, .int .i64 0, .int .i64 0, .int .i64 0] 99 (0, 0)) from by
   have nk : rb ≠ kb := by have := KBL.out; have := HRB.out; omega
   rw [← hX]
   exact (four_elseK nk _ _ _ _).trans ((b3.block rb (lt_of_block R2.out)).trans R2.out))
  clear hX lr bx b3 z0 z1 z2 z3 y0 y1 y2 y3 g1 q4 b1
  have g1 := cell_of_row X bb 1 _ _ _ AX.out.blk
  have z0 := NX.out.cell (HN.out.symm ▸ LT.out) (j := 0) (by omega)
  have z1 := NX.out.cell (HN.out.symm ▸ LT.out) (j := 1) (by omega)
  have z2 := NX.out.cell (HN.out.symm ▸ LT.out) (j := 2) (by omega)
  have z3 := NX.out.cell (HN.out.symm ▸ LT.out) (j := 3) (by omega)
  have x0 := cell_of_row X rb 0 _ _ _ RX.out
  have x1 := cell_of_row X rb 1 _ _ _ RX.out
  have x2 := cell_of_row X rb 2 _ _ _ RX.out
  have x3 := cell_of_row X rb 3 _ _ _ RX.out
  have f0 := frozen_of_row X rb 0 _ _ RX.out
  have f1 := frozen_of_row X rb 1 _ _ RX.out
  have f2 := frozen_of_row X rb 2 _ _ RX.out
  have f3 := frozen_of_row X rb 3 _ _ RX.out
  simp [putK] at g1 z0 z1 z2 z3 x0 x1 x2 x3
  rw [HN.out] at g1
  go_wp2
  obtain ⟨Z, hZ⟩ : ∃ Z, (((X.setCell ⟨rb, 0, none⟩ (.int .i64 (l : Int))).setCell ⟨rb, 1, none⟩ (.int .i64 (u : Int))).setCell ⟨rb, 2, none⟩ (.int .i64 (r : Int))).setCell ⟨rb, 3, none⟩ (.int .i64 (d : Int)) = Z := ⟨_, rfl⟩
  have GZ : Z.heap[rb]? = some (.cells #[.int .i64 (l : Int), .int .i64 (u : Int), .int .i64 (r : Int), .int .i64 (d : Int)] 99 (0, 0)) := by rw [← hZ]; exact span_res RX.out _ _ _ _
  have lw : w.heap.size ≤ rb := by have := HRB.out; omega
  have KZ : KpW kb w Z := by
   have k := KX.out
   rw [← hZ]
   exact ⟨k.os, k.tape, k.output, by simp only [World.size_setCell]; exact k.size, fun q h1 h2 => (four_elseK (by omega) _ _ _ _).trans (k.keep q h1 h2)⟩
  have AZ : BoA Z bb sb B g cap kb qs (putK kn t (l : Int) (u : Int) (r : Int) (d : Int)) := by
   refine HB.out.keep KZ ?_ AX.out.rig
   rw [← hZ]
   exact (four_elseK (by have := KBL.out; have := HRB.out; omega) _ _ _ _).trans NX.out
  rw [hZ]
  have i0 := cell_of_row Z _ 0 _ _ _ GZ
  have i1 := cell_of_row Z _ 1 _ _ _ GZ
  have i2 := cell_of_row Z _ 2 _ _ _ GZ
  have i3 := cell_of_row Z _ 3 _ _ _ GZ
  simp at i0 i1 i2 i3
  refine bodyPost_ret (v := .agg #[.int .i64 (l : Int), .int .i64 (u : Int), .int .i64 (r : Int), .int .i64 (d : Int)]) (by simp [results, Tryz.results68, go_sem, i0, i1, i2, i3]) rfl ?_
  exact ⟨_, _, _, _, _, rfl, VB.out, AZ, KZ⟩
theorem PaB.range {S : Int} {U : Int → Int → Int} {l u r d : Int} (hS : 0 ≤ S) (h : PaB S U l u r d) : (0 ≤ l ∧ l ≤ S) ∧ (0 ≤ u ∧ u ≤ S) ∧ (0 ≤ r ∧ r ≤ S) ∧ (0 ≤ d ∧ d ≤ S) := by
 rcases h with ⟨_, rfl, rfl, rfl, rfl⟩ | ⟨h, b1, b2, b3, b4⟩
 ·omega
 ·obtain ⟨y1, a1⟩ := h.hl
  obtain ⟨x2, a2⟩ := h.hu
  have := h.inn _ _ a1
  have := h.inn _ _ a2
  omega
theorem PaB.all {qs : List Sq} (hS : StQ qs) {n t : Nat} (hw : WFQ qs (n + 1) t) (t0 : t ≠ 0) {l u r d S : Int} (h : PaB S (upQ qs n (prt (sqA qs t)) 4) l u r d) : BxF (valQ qs (n + 1) t) l u r d := by
 have e : upQ qs n (prt (sqA qs t)) 4 = valQ qs (n + 1) t := funext fun x => funext fun y => up_all qs n t x y
 rw [e] at h
 rcases h with ⟨z, _⟩ | ⟨h, _⟩
 ·obtain ⟨x, y, _, _, hv⟩ := wf_lives hS hw t0
  exact absurd (z x y) hv
 ·exact h
set_option maxRecDepth 100000 in
set_option maxHeartbeats 12800000 in
theorem of_four (n : Nat) (ih : OfC n) (bb sb B g cap kb : Nat) (qs : List Sq) (kn : Nat → Nat → Int) (t L : Nat) (w : World) (h : BoA w bb sb B g cap kb qs kn) (hw : WFQ qs (n + 1) t) (t0 : t ≠ 0) (hL : L = n + 4) (hn : n ≤ 42) (hq : qs.length ≤ 2000000) (hk : ∀ j, j < 4 → kn t j = 0) :
  Calls Tryz.prog 68 #[.pointer (some ⟨bb, 0, none⟩), .int .i32 (t : Int), .int .i64 (L : Int)] w (OfP bb sb B g cap kb qs (n + 1) t w) := by
 have lt := hw.lt h.stk.st
 have HB := hide' h
 have KBL := hide' (lt_of_block h.kno)
 have HW := hide' (And.intro hw t0)
 obtain ⟨rb, hrb⟩ : ∃ x, w.heap.size = x := ⟨_, rfl⟩
 have HRB := hide' hrb
 obtain ⟨w1, hw1⟩ : ∃ x, w.alloc (.cells #[.int .i64 0, .int .i64 0, .int .i64 0, .int .i64 0] 99) = x := ⟨_, rfl⟩
 have HW1 := hide' hw1
 have B1 := hide' (show Below w.heap.size w w1 by rw [← hw1]; exact (Below.refl _ _).alloc (Nat.le_refl _) _)
 have R1 := hide' (show w1.heap[rb]? = some (.cells #[.int .i64 0, .int .i64 0, .int .i64 0, .int .i64 0] 99 (0, 0)) by rw [← hw1, ← hrb]; exact heap_alloc_new _ _)
 have A1 := hide' (h.below B1.out)
 have b1 := cell_of_row w1 bb 1 _ _ _ A1.out.blk
 have b0 := cell_of_row w1 bb 0 _ _ _ A1.out.blk
 have k0 := A1.out.kno.cell lt (j := 0) (by omega)
 have k1 := A1.out.kno.cell lt (j := 1) (by omega)
 have k2 := A1.out.kno.cell lt (j := 2) (by omega)
 have k3 := A1.out.kno.cell lt (j := 3) (by omega)
 rw [hk 0 (by omega)] at k0
 rw [hk 1 (by omega)] at k1
 rw [hk 2 (by omega)] at k2
 rw [hk 3 (by omega)] at k3
 have c0 := A1.out.stk.c0
 obtain ⟨s0, s1, s2, s3, s4, s5⟩ := A1.out.stk.cells lt
 obtain ⟨Q, hQ⟩ : ∃ Q, sqA qs t = Q := ⟨_, rfl⟩
 rw [hQ] at s0 s1 s2 s3 s4 s5
 have HQP := hide' (show (∀ j, prt Q j = prt (sqA qs t) j) by rw [hQ]; exact fun _ => rfl)
 simp at b0 b1 k0
 obtain ⟨N, hN⟩ : ∃ x, qs.length = x := ⟨_, rfl⟩
 have HN := hide' hN
 rw [hN] at b1 c0 lt
 have LT := hide' lt
 have l1 : (t : Int) < (N : Int) := by omega
 have se : ∀ w, (Op.equalIn 10000 99 (.agg #[.int .i64 0, .int .i64 0, .int .i64 0, .int .i64 0]) (.agg #[.int .i64 0, .int .i64 0, .int .i64 0, .int .i64 0])).run Tryz.prog w = .ok true w := fun w => by
  rw [span_eq]
  simp
 obtain ⟨qb, hqb⟩ : ∃ x, w1.heap.size = x := ⟨_, rfl⟩
 obtain ⟨w2, hw2⟩ : ∃ x, w1.alloc (.cells #[.int .i32 (Q.a : Int), .int .i32 (Q.b : Int), .int .i32 (Q.c : Int), .int .i32 (Q.d : Int), .int .u64 (Q.k : Int), .int .i64 Q.l] 90) = x := ⟨_, rfl⟩
 have HW2 := hide' hw2
 have HQB := hide' hqb
 have B2 := hide' (show Below w.heap.size w w2 by rw [← hw2]; exact B1.out.alloc B1.out.size _)
 have B12 := hide' (show Below w1.heap.size w1 w2 by rw [← hw2]; exact (Below.refl _ _).alloc (Nat.le_refl _) _)
 have Q2 := hide' (show w2.heap[qb]? = some (.cells #[.int .i32 (Q.a : Int), .int .i32 (Q.b : Int), .int .i32 (Q.c : Int), .int .i32 (Q.d : Int), .int .u64 (Q.k : Int), .int .i64 Q.l] 90 (0, 0)) by rw [← hw2, ← hqb]; exact heap_alloc_new _ _)
 have R2 := hide' ((B12.out.block rb (lt_of_block R1.out)).trans R1.out)
 have A2 := hide' (A1.out.below B12.out)
 obtain ⟨L', hL'⟩ : ∃ x, n + 3 = x := ⟨_, rfl⟩
 obtain ⟨S2, hS2⟩ : ∃ x, sideI (n + 1) = x := ⟨_, rfl⟩
 obtain ⟨S1, hS1⟩ : ∃ x, sideI n = x := ⟨_, rfl⟩
 have sb1 := sideI_le (n := n + 1) (by omega)
 have sb2 := sideI_pos n
 have sb3 := sideI_next n
 have g1 : (L : Int) - 1 = (L' : Int) := by omega
 have g2 : L' ≤ 48 := by omega
 have g2' : L ≤ 49 := by omega
 have g3 : IntKind.i64.wrap (L' : Int) = (L' : Int) := wrap_natK _ (by omega)
 have g4 : IntKind.i64.wrap (2 ^ L) = S2 := by
  have : (2 : Int) ^ L = S2 := by rw [hL, ← hS2, sideI_nat]; push_cast; rfl
  rw [this]
  simp [IntKind.wrap, IntKind.bits, IntKind.signed]; omega
 have g5 : IntKind.i64.wrap (2 ^ L') = S1 := by
  have : (2 : Int) ^ L' = S1 := by rw [← hL', ← hS1, sideI_nat]; push_cast; rfl
  rw [this]
  simp [IntKind.wrap, IntKind.bits, IntKind.signed]; omega
 have g6 : ((L : Int) == 3) = false := by simp; omega
 have HSS := hide' (And.intro hS1 (And.intro hS2 (And.intro hL'.symm (show S2 = 2 * S1 ∧ 8 ≤ S1 ∧ S2 ≤ 281474976710656 ∧ n ≤ 42 by omega))))
 have HQ2 := hide' hq
 have HLL := hide' hL
 clear h hw t0 hq hk hrb hw1 lt hN hQ hw2 hqb hL hn hL' hS2 hS1 sb1 sb2 sb3
 go_enter Tryz.func68, Tryz.ntmps68
 go_upto_region 1 with fail
 rw [HW1.out, HRB.out]
 go_upto_region 4 with fail
 rw [HW2.out, HQB.out]
 clear b0 b1 c0 s0 s1 s2 s3 s4 s5 k0 k1 k2 k3
 go_upto_region 7 with fail
 go_region
 go_upto_region 9 with fail
 obtain ⟨ob, hob⟩ : ∃ x, w2.heap.size = x := ⟨_, rfl⟩
 obtain ⟨w3, hw3⟩ : ∃ x, (w2.alloc (.cells #[.int .i64 S2, .int .i64 S2, .int .i64 0, .int .i64 0] 99)).drew = x := ⟨_, rfl⟩
 rw [hw3, hob]
 have B3 := hide' (show Below w2.heap.size w2 w3 by rw [← hw3]; exact ((Below.refl _ _).alloc (Nat.le_refl _) _).drew)
 have BW3 := hide' (B2.out.trans (B3.out.mono B2.out.size))
 have O3 := hide' (show w3.heap[ob]? = some (.cells #[.int .i64 S2, .int .i64 S2, .int .i64 0, .int .i64 0] 99 (0, 0)) by rw [← hw3, ← hob]; exact heap_alloc_new _ _)
 have R3 := hide' ((B3.out.block rb (lt_of_block R2.out)).trans R2.out)
 have Q3 := hide' ((B3.out.block qb (lt_of_block Q2.out)).trans Q2.out)
 have A3 := hide' (A2.out.below B3.out)
 have OBW := hide' (show rb < ob ∧ kb < ob ∧ kb < rb ∧ w.heap.size ≤ rb from by have := KBL.out; have := HRB.out; have := lt_of_block R2.out; omega)
 clear hob hw3 g1 g2 g2' g3 g4 g5 g6
 have c0 := cell_of_row w3 qb 0 _ _ _ Q3.out
 have c1 := cell_of_row w3 qb 1 _ _ _ Q3.out
 have c2 := cell_of_row w3 qb 2 _ _ _ Q3.out
 have c3 := cell_of_row w3 qb 3 _ _ _ Q3.out
 simp at c0 c1 c2 c3
 obtain ⟨p0, hp0⟩ : ∃ x, Q.a = x := ⟨_, rfl⟩
 obtain ⟨p1, hp1⟩ : ∃ x, Q.b = x := ⟨_, rfl⟩
 obtain ⟨p2, hp2⟩ : ∃ x, Q.c = x := ⟨_, rfl⟩
 obtain ⟨p3, hp3⟩ : ∃ x, Q.d = x := ⟨_, rfl⟩
 have HPP := hide' (show ∀ j, p4 p0 p1 p2 p3 j = prt (sqA qs t) j from fun j => by rw [← HQP.out j, ← hp0, ← hp1, ← hp2, ← hp3]; rfl)
 rw [hp0, hp1, hp2, hp3]
 rw [hp0] at c0
 rw [hp1] at c1
 rw [hp2] at c2
 rw [hp3] at c3
 have IX := hide' (fun (i : Nat) (hi : i < 4) (V : World) => index_p4 (a := p0) (b := p1) (c := p2) (d := p3) hi V)
 clear hp0 hp1 hp2 hp3
 go_wp2
 clear c0 c1 c2 c3
 go_loopw [70] (fun iv wr => ∃ (i : Nat) (l u r d : Int) (kn' : Nat → Nat → Int), iv = .int .i64 (i : Int) ∧ i ≤ 4 ∧ Hid (BoA wr bb sb B g cap kb qs kn') ∧ Hid (wr.heap[ob]? = some (.cells #[.int .i64 l, .int .i64 u, .int .i64 r, .int .i64 d] 99 (0, 0))) ∧ Hid (wr.heap[rb]? = some (.cells #[.int .i64 0, .int .i64 0, .int .i64 0, .int .i64 0] 99 (0, 0))) ∧ Hid (PaB (2 * sideI n) (upQ qs n (prt (sqA qs t)) i) l u r d) ∧ Hid (KpW kb w wr)) (fun iv _ => 4 - (intOf iv).toNat)
 case atStart => exact ⟨0, S2, S2, 0, 0, kn, rfl, by omega, A3, O3, R3, hide' (Or.inl ⟨fun _ _ => rfl, by have := HSS.out; omega, by have := HSS.out; omega, rfl, rfl⟩), hide' (KpW.of_below BW3.out)⟩
 case round =>
  obtain ⟨i, l, u, r, d, kn', rfl, hi, HA, HO, HR, HP, HKP⟩ := hrel
  by_cases di : i < 4
  ·have d1 : (i : Int) < 4 := by omega
   have ix := IX.out i di
   obtain ⟨pt, hpt⟩ : ∃ x, p4 p0 p1 p2 p3 i = x := ⟨_, rfl⟩
   rw [hpt] at ix
   have PT := hide' (show prt (sqA qs t) i = pt by rw [← HPP.out, hpt])
   clear hpt
   by_cases z : pt = 0
   ·subst z
    have z1 : (((0 : Nat) : Int) != 0) = false := by simp
    have NP := hide' (PaB.skip HB.out.stk.st PT.out HP.out)
    go_wp2
    exact ⟨⟨i + 1, l, u, r, d, kn', by go_num, by omega, HA, HO, HR, NP, HKP⟩, by simp [intOf]; omega⟩
   ·have z1 : ((pt : Int) != 0) = true := by simp; omega
    have WP := hide' (show WFQ qs n pt by rw [← PT.out]; exact HW.out.1.prt HB.out.stk.st i)
    have f1 : (L : Int) - 1 = (L' : Int) := by have := HSS.out; have := HLL.out; omega
    have f2 : L' ≤ 48 := by have := HSS.out; omega
    have OC := hide' (ih bb sb B g cap kb qs kn' pt L' wr HA.out WP.out z HSS.out.2.2.1 (by have := HSS.out; omega) HQ2.out)
    clear z
    go_wp2_with fail
    refine OC.out.mono ?_
    rintro o w5 ⟨l', u', r', d', kn5, rfl, bx, a5, k5⟩
    have BX := hide' bx
    have BI := hide' (box_in bx)
    have A5 := hide' a5
    have nrb : rb ≠ kb := by have := OBW.out; omega
    have nob : ob ≠ kb := by have := OBW.out; omega
    have O5 := hide' ((k5.keep ob (lt_of_block HO.out) nob).trans HO.out)
    have R5 := hide' ((k5.keep rb (lt_of_block HR.out) nrb).trans HR.out)
    have K5 := hide' (HKP.out.trans k5)
    obtain ⟨X, hX⟩ : ∃ x, (i : Int) % 2 * S1 = x := ⟨_, rfl⟩
    obtain ⟨Y, hY⟩ : ∃ x, (i : Int) / 2 * S1 = x := ⟨_, rfl⟩
    have XY := hide' (show ((X = ((i % 2 : Nat) : Int) * sideI n) ∧ (Y = ((i / 2 : Nat) : Int) * sideI n)) ∧ (0 ≤ X ∧ X ≤ S1 ∧ 0 ≤ Y ∧ Y ≤ S1) from by
     have ss := HSS.out
     rw [← hX, ← hY, ss.1]
     have : i = 0 ∨ i = 1 ∨ i = 2 ∨ i = 3 := by omega
     rcases this with rfl | rfl | rfl | rfl <;> simp <;> omega)
    have e1 : wrap64 ((i : Int) % 2 * S1) = X := by rw [hX]; have := XY.out.2; have := HSS.out; unfold wrap64; omega
    have e2 : wrap64 ((i : Int) / 2 * S1) = Y := by rw [hY]; have := XY.out.2; have := HSS.out; unfold wrap64; omega
    clear bx a5 k5 hX hY nrb nob
    go_upto_region 14 with fail
    rw [e1, e2]
    clear e1 e2
    obtain ⟨ib, hib⟩ : ∃ x, w5.heap.size = x := ⟨_, rfl⟩
    obtain ⟨w6, hw6⟩ : ∃ x, w5.alloc (.cells #[.int .i64 l', .int .i64 u', .int .i64 r', .int .i64 d'] 99) = x := ⟨_, rfl⟩
    rw [hw6, hib]
    have B6 := hide' (show Below w5.heap.size w5 w6 by rw [← hw6]; exact (Below.refl _ _).alloc (Nat.le_refl _) _)
    have I6 := hide' (show w6.heap[ib]? = some (.cells #[.int .i64 l', .int .i64 u', .int .i64 r', .int .i64 d'] 99 (0, 0)) by rw [← hw6, ← hib]; exact heap_alloc_new _ _)
    have O6 := hide' ((B6.out.block ob (lt_of_block O5.out)).trans O5.out)
    have NIO := hide' (show ib ≠ ob by have := lt_of_block O5.out; omega)
    clear hib hw6
    as_aux_lemma =>
     have pr := HP.out.range (by have := sideI_pos n; omega)
     have bi := BI.out
     have xy := XY.out.2
     have ss := HSS.out
     obtain ⟨a1, h1⟩ : ∃ x, X + l' = x := ⟨_, rfl⟩
     obtain ⟨a2, h2⟩ : ∃ x, X + r' = x := ⟨_, rfl⟩
     obtain ⟨a3, h3⟩ : ∃ x, Y + u' = x := ⟨_, rfl⟩
     obtain ⟨a4, h4⟩ : ∃ x, Y + d' = x := ⟨_, rfl⟩
     have v1 : IntKind.i64.wrap a1 = a1 := by simp [IntKind.wrap, IntKind.bits, IntKind.signed]; omega
     have v2 : IntKind.i64.wrap a2 = a2 := by simp [IntKind.wrap, IntKind.bits, IntKind.signed]; omega
     have v3 : IntKind.i64.wrap a3 = a3 := by simp [IntKind.wrap, IntKind.bits, IntKind.signed]; omega
     have v4 : IntKind.i64.wrap a4 = a4 := by simp [IntKind.wrap, IntKind.bits, IntKind.signed]; omega
     have HAA := hide' (And.intro h1 (And.intro h2 (And.intro h3 h4)))
     have o0 := cell_of_row w6 ob 0 _ _ _ O6.out
     have o2 := cell_of_row w6 ob 2 _ _ _ O6.out
     have j0 := cell_of_row w6 ib 0 _ _ _ I6.out
     have j2 := cell_of_row w6 ib 2 _ _ _ I6.out
     have y0 := frozen_of_row w6 ob 0 _ _ O6.out
     have y2 := frozen_of_row w6 ob 2 _ _ O6.out
     simp at o0 o2 j0 j2
     clear pr bi xy ss
     go_region
     obtain ⟨w7, hw7⟩ : ∃ x, ((w6.setCell ⟨ob, 0, none⟩ (.int .i64 (min l a1))).setCell ⟨ob, 2, none⟩ (.int .i64 (max r a2))).drew = x := ⟨_, rfl⟩
     rw [hw7]
     have O7 := hide' (show w7.heap[ob]? = some (.cells #[.int .i64 (min l a1), .int .i64 u, .int .i64 (max r a2), .int .i64 d] 99 (0, 0)) by
      rw [← hw7]
      have q0 : (w6.setCell ⟨ob, 0, none⟩ (.int .i64 (min l a1))).heap[ob]? = some (.cells #[.int .i64 (min l a1), .int .i64 u, .int .i64 r, .int .i64 d] 99 (0, 0)) := by rw [heap_setCell_same _ _ _ _ _ _ O6.out]; rfl
      show ((w6.setCell ⟨ob, 0, none⟩ (.int .i64 (min l a1))).setCell ⟨ob, 2, none⟩ (.int .i64 (max r a2))).heap[ob]? = _
      rw [heap_setCell_same _ _ _ _ _ _ q0]; rfl)
     have E7 := hide' (show (∀ q, q ≠ ob → w7.heap[q]? = w6.heap[q]?) ∧ w7.heap.size = w6.heap.size ∧ w7.os = w6.os ∧ w7.tape = w6.tape ∧ w7.output = w6.output from by
      rw [← hw7]
      refine ⟨fun q hq => ?_, ?_, rfl, rfl, rfl⟩
      ·show ((w6.setCell ⟨ob, 0, none⟩ (.int .i64 (min l a1))).setCell ⟨ob, 2, none⟩ (.int .i64 (max r a2))).heap[q]? = _
       rw [Below.heap_setCell _ _ _ _ (by simpa using hq), Below.heap_setCell _ _ _ _ (by simpa using hq)]
      ·show ((w6.setCell ⟨ob, 0, none⟩ (.int .i64 (min l a1))).setCell ⟨ob, 2, none⟩ (.int .i64 (max r a2))).heap.size = _
       rw [World.size_setCell, World.size_setCell])
     have I7 := hide' ((E7.out.1 ib NIO.out).trans I6.out)
     obtain ⟨nl, hnl⟩ : ∃ x, min l a1 = x := ⟨_, rfl⟩
     obtain ⟨nr, hnr⟩ : ∃ x, max r a2 = x := ⟨_, rfl⟩
     rw [hnl, hnr] at O7
     have HNR := hide' (And.intro hnl hnr)
     rw [hnl, hnr]
     clear hw7 o0 o2 j0 j2 y0 y2 hnl hnr h1 h2
     as_aux_lemma =>
      have o1 := cell_of_row w7 ob 1 _ _ _ O7.out
      have o3 := cell_of_row w7 ob 3 _ _ _ O7.out
      have j1 := cell_of_row w7 ib 1 _ _ _ I7.out
      have j3 := cell_of_row w7 ib 3 _ _ _ I7.out
      have y1 := frozen_of_row w7 ob 1 _ _ O7.out
      have y3 := frozen_of_row w7 ob 3 _ _ O7.out
      simp at o1 o3 j1 j3
      go_upto_region 15 with fail
      go_region
      clear v1 v2 v3 v4 h3 h4
      obtain ⟨w8, hw8⟩ : ∃ x, ((w7.setCell ⟨ob, 1, none⟩ (.int .i64 (min u a3))).setCell ⟨ob, 3, none⟩ (.int .i64 (max d a4))).drew = x := ⟨_, rfl⟩
      rw [hw8]
      have O8 := hide' (show w8.heap[ob]? = some (.cells #[.int .i64 nl, .int .i64 (min u a3), .int .i64 nr, .int .i64 (max d a4)] 99 (0, 0)) by
       rw [← hw8]
       have q0 : (w7.setCell ⟨ob, 1, none⟩ (.int .i64 (min u a3))).heap[ob]? = some (.cells #[.int .i64 nl, .int .i64 (min u a3), .int .i64 nr, .int .i64 d] 99 (0, 0)) := by rw [heap_setCell_same _ _ _ _ _ _ O7.out]; rfl
       show ((w7.setCell ⟨ob, 1, none⟩ (.int .i64 (min u a3))).setCell ⟨ob, 3, none⟩ (.int .i64 (max d a4))).heap[ob]? = _
       rw [heap_setCell_same _ _ _ _ _ _ q0]; rfl)
      have E8 := hide' (show (∀ q, q ≠ ob → w8.heap[q]? = w7.heap[q]?) ∧ w8.heap.size = w7.heap.size ∧ w8.os = w7.os ∧ w8.tape = w7.tape ∧ w8.output = w7.output from by
       rw [← hw8]
       refine ⟨fun q hq => ?_, ?_, rfl, rfl, rfl⟩
       ·show ((w7.setCell ⟨ob, 1, none⟩ (.int .i64 (min u a3))).setCell ⟨ob, 3, none⟩ (.int .i64 (max d a4))).heap[q]? = _
        rw [Below.heap_setCell _ _ _ _ (by simpa using hq), Below.heap_setCell _ _ _ _ (by simpa using hq)]
       ·show ((w7.setCell ⟨ob, 1, none⟩ (.int .i64 (min u a3))).setCell ⟨ob, 3, none⟩ (.int .i64 (max d a4))).heap.size = _
        rw [World.size_setCell, World.size_setCell])
      have K8 := hide' (show KpW kb w w8 from by
       have k := K5.out
       have e7 := E7.out
       have e8 := E8.out
       have b6 := B6.out
       have ow := OBW.out
       refine ⟨(e8.2.2.1.trans e7.2.2.1).trans (b6.os.trans k.os), (e8.2.2.2.1.trans e7.2.2.2.1).trans (b6.tape.trans k.tape), (e8.2.2.2.2.trans e7.2.2.2.2).trans (b6.output.trans k.output), by have := k.size; have := b6.size; omega, fun q h1 h2 => ?_⟩
       exact (e8.1 q (by omega)).trans ((e7.1 q (by omega)).trans ((b6.block q (by have := k.size; omega)).trans (k.keep q h1 h2))))
      have A8 := hide' (show BoA w8 bb sb B g cap kb qs kn5 from HB.out.keep K8.out ((E8.out.1 kb (by have := OBW.out; omega)).trans ((E7.out.1 kb (by have := OBW.out; omega)).trans ((B6.out.block kb (lt_of_block A5.out.kno)).trans A5.out.kno))) A5.out.rig)
      have R8 := hide' (show w8.heap[rb]? = some (.cells #[.int .i64 0, .int .i64 0, .int .i64 0, .int .i64 0] 99 (0, 0)) from (E8.out.1 rb (by have := OBW.out; omega)).trans ((E7.out.1 rb (by have := OBW.out; omega)).trans ((B6.out.block rb (lt_of_block R5.out)).trans R5.out)))
      have P8 := hide' (show PaB (2 * sideI n) (upQ qs n (prt (sqA qs t)) (i + 1)) nl (min u a3) nr (max d a4) from by
       have q := HP.out.next di (by rw [PT.out]; exact BX.out) BI.out.1 XY.out.1.1 XY.out.1.2
       rw [HAA.out.1, HAA.out.2.1, HAA.out.2.2.1, HAA.out.2.2.2, HNR.out.1, HNR.out.2] at q
       exact q)
      clear hw8 o1 o3 j1 j3 y1 y3
      go_wp2
      exact ⟨⟨i + 1, nl, _, nr, _, kn5, by go_num, by omega, A8, O8, R8, P8, K8⟩, by simp [intOf]; omega⟩
  ·have d1 : ¬ (i : Int) < 4 := by omega
   obtain rfl : i = 4 := by omega
   as_aux_lemma =>
    have VB := hide' (HP.out.all HB.out.stk.st HW.out.1 HW.out.2)
    have o0 := cell_of_row wr ob 0 _ _ _ HO.out
    have o1 := cell_of_row wr ob 1 _ _ _ HO.out
    have o2 := cell_of_row wr ob 2 _ _ _ HO.out
    have o3 := cell_of_row wr ob 3 _ _ _ HO.out
    have g1 := cell_of_row wr bb 1 _ _ _ HA.out.blk
    have z0 := HA.out.kno.cell (HN.out.symm ▸ LT.out) (j := 0) (by omega)
    have z1 := HA.out.kno.cell (HN.out.symm ▸ LT.out) (j := 1) (by omega)
    have z2 := HA.out.kno.cell (HN.out.symm ▸ LT.out) (j := 2) (by omega)
    have z3 := HA.out.kno.cell (HN.out.symm ▸ LT.out) (j := 3) (by omega)
    have y0 := frozen_of_row wr kb (t * 4) _ _ HA.out.kno
    have y1 := frozen_of_row wr kb (t * 4 + 1) _ _ HA.out.kno
    have y2 := frozen_of_row wr kb (t * 4 + 2) _ _ HA.out.kno
    have y3 := frozen_of_row wr kb (t * 4 + 3) _ _ HA.out.kno
    simp at o0 o1 o2 o3 g1 z0
    rw [HN.out] at g1
    obtain ⟨X, hX⟩ : ∃ X, ((((wr.setCell ⟨kb, t * 4, none⟩ (.int .i64 l)).setCell ⟨kb, t * 4 + 1, none⟩ (.int .i64 u)).setCell ⟨kb, t * 4 + 2, none⟩ (.int .i64 r)).setCell ⟨kb, t * 4 + 3, none⟩ (.int .i64 d)).drew = X := ⟨_, rfl⟩
    have HX := hide' hX
    have nk : kb ≠ ob ∧ kb ≠ rb := by have := OBW.out; omega
    have KX := hide' (show KpW kb w X by rw [← hX]; exact ((((HKP.out.set _).set _).set _).set _).drew)
    have NX := hide' (show KnB X kb qs.length (putK kn' t l u r d) by rw [← hX]; exact HA.out.kno.put t _ _ _ _)
    have AX := hide' (HB.out.keep KX.out NX.out (HA.out.rig.put HW.out.2 HW.out.1 VB.out))
    have OX := hide' (show X.heap[ob]? = some (.cells #[.int .i64 l, .int .i64 u, .int .i64 r, .int .i64 d] 99 (0, 0)) by rw [← hX]; exact (four_elseK (fun e => nk.1 e.symm) _ _ _ _).trans HO.out)
    have RX := hide' (show X.heap[rb]? = some (.cells #[.int .i64 0, .int .i64 0, .int .i64 0, .int .i64 0] 99 (0, 0)) by rw [← hX]; exact (four_elseK (fun e => nk.2 e.symm) _ _ _ _).trans HR.out)
    clear hX nk
    go_upto_region 17 with fail
    go_region
    rw [HX.out]
    clear o0 o1 o2 o3 g1 z0 z1 z2 z3 y0 y1 y2 y3
    have o0 := cell_of_row X ob 0 _ _ _ OX.out
    have o1 := cell_of_row X ob 1 _ _ _ OX.out
    have o2 := cell_of_row X ob 2 _ _ _ OX.out
    have o3 := cell_of_row X ob 3 _ _ _ OX.out
    have x0 := cell_of_row X rb 0 _ _ _ RX.out
    have x1 := cell_of_row X rb 1 _ _ _ RX.out
    have x2 := cell_of_row X rb 2 _ _ _ RX.out
    have x3 := cell_of_row X rb 3 _ _ _ RX.out
    have f0 := frozen_of_row X rb 0 _ _ RX.out
    have f1 := frozen_of_row X rb 1 _ _ RX.out
    have f2 := frozen_of_row X rb 2 _ _ RX.out
    have f3 := frozen_of_row X rb 3 _ _ RX.out
    simp at o0 o1 o2 o3 x0 x1 x2 x3
    go_wp2
    obtain ⟨Z, hZ⟩ : ∃ Z, (((X.setCell ⟨rb, 0, none⟩ (.int .i64 l)).setCell ⟨rb, 1, none⟩ (.int .i64 u)).setCell ⟨rb, 2, none⟩ (.int .i64 r)).setCell ⟨rb, 3, none⟩ (.int .i64 d) = Z := ⟨_, rfl⟩
    have GZ : Z.heap[rb]? = some (.cells #[.int .i64 l, .int .i64 u, .int .i64 r, .int .i64 d] 99 (0, 0)) := by rw [← hZ]; exact span_res RX.out _ _ _ _
    have ow := OBW.out
    have KZ : KpW kb w Z := by
     have k := KX.out
     rw [← hZ]
     exact ⟨k.os, k.tape, k.output, by simp only [World.size_setCell]; exact k.size, fun q h1 h2 => (four_elseK (by omega) _ _ _ _).trans (k.keep q h1 h2)⟩
    have AZ : BoA Z bb sb B g cap kb qs (putK kn' t l u r d) := by
     refine HB.out.keep KZ ?_ AX.out.rig
     rw [← hZ]
     exact (four_elseK (by omega) _ _ _ _).trans NX.out
    rw [hZ]
    have i0 := cell_of_row Z _ 0 _ _ _ GZ
    have i1 := cell_of_row Z _ 1 _ _ _ GZ
    have i2 := cell_of_row Z _ 2 _ _ _ GZ
    have i3 := cell_of_row Z _ 3 _ _ _ GZ
    simp at i0 i1 i2 i3
    refine bodyPost_ret (v := .agg #[.int .i64 l, .int .i64 u, .int .i64 r, .int .i64 d]) (by simp [results, Tryz.results68, go_sem, i0, i1, i2, i3]) rfl ?_
    exact ⟨l, u, r, d, _, rfl, VB.out, AZ, KZ⟩
theorem of_any : ∀ n, OfC n
 | 0 => by
  intro bb sb B g cap kb qs kn t L w h hw t0 hL hn hq
  by_cases hk : ∀ j, j < 4 → kn t j = 0
  ·subst hL; exact of_eight bb sb B g cap kb qs kn t w h hw t0 hq hk
  ·exact of_known 0 bb sb B g cap kb qs kn t L w h hw t0 hq hk
 | n + 1 => by
  intro bb sb B g cap kb qs kn t L w h hw t0 hL hn hq
  by_cases hk : ∀ j, j < 4 → kn t j = 0
  ·exact of_four n (of_any n) bb sb B g cap kb qs kn t L w h hw t0 (by omega) (by omega) hq hk
  ·exact of_known (n + 1) bb sb B g cap kb qs kn t L w h hw t0 hq hk
end Go.Proofs.YtemhcpldflcfbaaGreatDoor
