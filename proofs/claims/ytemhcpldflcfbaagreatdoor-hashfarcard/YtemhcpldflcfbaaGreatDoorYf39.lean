/-
  What the last text of this claim leans on, part 39: Hq6, Hr1, Hq7, Gp2.
-/
import Derived.Test.YtemhcpldflcfbaaGreatDoorYf38
import Derived.Test.YtemhcpldflcfbaaGreatDoorYf30
import Derived.Test.YtemhcpldflcfbaaGreatDoorYf37
import Derived.Test.YtemhcpldflcfbaaGreatDoorYf2
import Derived.Test.YtemhcpldflcfbaaGreatDoorYf9
namespace Go.Proofs.YtemhcpldflcfbaaGreatDoor
open Go.RowKit
set_option linter.unusedVariables false
theorem PaB.range {S : Int} {U : Int → Int → Int} {l u r d : Int} (hS : 0 ≤ S) (h : PaB S U l u r d) : (0 ≤ l ∧ l ≤ S) ∧ (0 ≤ u ∧ u ≤ S) ∧ (0 ≤ r ∧ r ≤ S) ∧ (0 ≤ d ∧ d ≤ S) := by
 rcases h with ⟨_, rfl, rfl, rfl, rfl⟩ | ⟨h, b1, b2, b3, b4⟩
 ·omega
 ·obtain ⟨y1, a1⟩ := h.hl
  obtain ⟨x2, a2⟩ := h.hu
  have := h.inn _ _ a1
  have := h.inn _ _ a2
  omega
theorem PaB.all {qs : List Sq} (hS : StQ qs) {n t : Nat} (hw : WFQ qs (n + 1) t) (t0 : t ≠ 0) {l u r d S : Int} (h : PaB S (upQ qs n (prt (sqA qs t)) 4) l u r d) : BxF (valQ qs (n + 1) t) l u r d := by
 have e : upQ qs n (prt (sqA qs t)) 4 = valQ qs (n + 1) t := funext fun x => funext fun y => up_all qs n t x y
 rw [e] at h
 rcases h with ⟨z, _⟩ | ⟨h, _⟩
 ·obtain ⟨x, y, _, _, hv⟩ := wf_lives hS hw t0
  exact absurd (z x y) hv
 ·exact h
set_option maxRecDepth 100000 in
set_option maxHeartbeats 12800000 in
theorem of_four (n : Nat) (ih : OfC n) (bb sb B g cap kb : Nat) (qs : List Sq) (kn : Nat → Nat → Int) (t L : Nat) (w : World) (h : BoA w bb sb B g cap kb qs kn) (hw : WFQ qs (n + 1) t) (t0 : t ≠ 0) (hL : L = n + 4) (hn : n ≤ 42) (hq : qs.length ≤ 2000000) (hk : ∀ j, j < 4 → kn t j = 0) :
  Calls Tryz.prog 68 #[.pointer (some ⟨bb, 0, none⟩), .int .i32 (t : Int), .int .i64 (L : Int)] w (OfP bb sb B g cap kb qs (n + 1) t w) := by
 have lt := hw.lt h.stk.st
 have HB := hide' h
 have KBL := hide' (lt_of_block h.kno)
 have HW := hide' (And.intro hw t0)
 obtain ⟨rb, hrb⟩ : ∃ x, w.heap.size = x := ⟨_, rfl⟩
 have HRB := hide' hrb
 obtain ⟨w1, hw1⟩ : ∃ x, w.alloc (.cells #[.int .i64 0, .int .i64 0, .int .i64 0, .int .i64 0] 99) = x := ⟨_, rfl⟩
 have HW1 := hide' hw1
 have B1 := hide' (show Below w.heap.size w w1 by rw [← hw1]; exact (Below.refl _ _).alloc (Nat.le_refl _) _)
 have R1 := hide' (show w1.heap[rb]? = some (.cells #[.int .i64 0, .int .i64 0, .int .i64 0, .int .i64 0] 99 (0, 0)) by rw [← hw1, ← hrb]; exact heap_alloc_new _ _)
 have A1 := hide' (h.below B1.out)
 have b1 := cell_of_row w1 bb 1 _ _ _ A1.out.blk
 have b0 := cell_of_row w1 bb 0 _ _ _ A1.out.blk
 have k0 := A1.out.kno.cell lt (j := 0) (by omega)
 have k1 := A1.out.kno.cell lt (j := 1) (by omega)
 have k2 := A1.out.kno.cell lt (j := 2) (by omega)
 have k3 := A1.out.kno.cell lt (j := 3) (by omega)
 rw [hk 0 (by omega)] at k0
 rw [hk 1 (by omega)] at k1
 rw [hk 2 (by omega)] at k2
 rw [hk 3 (by omega)] at k3
 have c0 := A1.out.stk.c0
 obtain ⟨s0, s1, s2, s3, s4, s5⟩ := A1.out.stk.cells lt
 obtain ⟨Q, hQ⟩ : ∃ Q, sqA qs t = Q := ⟨_, rfl⟩
 rw [hQ] at s0 s1 s2 s3 s4 s5
 have HQP := hide' (show (∀ j, prt Q j = prt (sqA qs t) j) by rw [hQ]; exact fun _ => rfl)
 simp at b0 b1 k0
 obtain ⟨N, hN⟩ : ∃ x, qs.length = x := ⟨_, rfl⟩
 have HN := hide' hN
 rw [hN] at b1 c0 lt
 have LT := hide' lt
 have l1 : (t : Int) < (N : Int) := by omega
 have se : ∀ w, (Op.equalIn 10000 99 (.agg #[.int .i64 0, .int .i64 0, .int .i64 0, .int .i64 0]) (.agg #[.int .i64 0, .int .i64 0, .int .i64 0, .int .i64 0])).run Tryz.prog w = .ok true w := fun w => by
  rw [span_eq]
  simp
 obtain ⟨qb, hqb⟩ : ∃ x, w1.heap.size = x := ⟨_, rfl⟩
 obtain ⟨w2, hw2⟩ : ∃ x, w1.alloc (.cells #[.int .i32 (Q.a : Int), .int .i32 (Q.b : Int), .int .i32 (Q.c : Int), .int .i32 (Q.d : Int), .int .u64 (Q.k : Int), .int .i64 Q.l] 90) = x := ⟨_, rfl⟩
 have HW2 := hide' hw2
 have HQB := hide' hqb
 have B2 := hide' (show Below w.heap.size w w2 by rw [← hw2]; exact B1.out.alloc B1.out.size _)
 have B12 := hide' (show Below w1.heap.size w1 w2 by rw [← hw2]; exact (Below.refl _ _).alloc (Nat.le_refl _) _)
 have Q2 := hide' (show w2.heap[qb]? = some (.cells #[.int .i32 (Q.a : Int), .int .i32 (Q.b : Int), .int .i32 (Q.c : Int), .int .i32 (Q.d : Int), .int .u64 (Q.k : Int), .int .i64 Q.l] 90 (0, 0)) by rw [← hw2, ← hqb]; exact heap_alloc_new _ _)
 have R2 := hide' ((B12.out.block rb (lt_of_block R1.out)).trans R1.out)
 have A2 := hide' (A1.out.below B12.out)
 obtain ⟨L', hL'⟩ : ∃ x, n + 3 = x := ⟨_, rfl⟩
 obtain ⟨S2, hS2⟩ : ∃ x, sideI (n + 1) = x := ⟨_, rfl⟩
 obtain ⟨S1, hS1⟩ : ∃ x, sideI n = x := ⟨_, rfl⟩
 have sb1 := sideI_le (n := n + 1) (by omega)
 have sb2 := sideI_pos n
 have sb3 := sideI_next n
 have g1 : (L : Int) - 1 = (L' : Int) := by omega
 have g2 : L' ≤ 48 := by omega
 have g2' : L ≤ 49 := by omega
 have g3 : IntKind.i64.wrap (L' : Int) = (L' : Int) := wrap_natK _ (by omega)
 have g4 : IntKind.i64.wrap (2 ^ L) = S2 := by
  have : (2 : Int) ^ L = S2 := by rw [hL, ← hS2, sideI_nat]; push_cast; rfl
  rw [this]
  simp [IntKind.wrap, IntKind.bits, IntKind.signed]; omega
 have g5 : IntKind.i64.wrap (2 ^ L') = S1 := by
  have : (2 : Int) ^ L' = S1 := by rw [← hL', ← hS1, sideI_nat]; push_cast; rfl
  rw [this]
  simp [IntKind.wrap, IntKind.bits, IntKind.signed]; omega
 have g6 : ((L : Int) == 3) = false := by simp; omega
 have HSS := hide' (And.intro hS1 (And.intro hS2 (And.intro hL'.symm (show S2 = 2 * S1 ∧ 8 ≤ S1 ∧ S2 ≤ 281474976710656 ∧ n ≤ 42 by omega))))
 have HQ2 := hide' hq
 have HLL := hide' hL
 clear h hw t0 hq hk hrb hw1 lt hN hQ hw2 hqb hL hn hL' hS2 hS1 sb1 sb2 sb3
 go_enter Tryz.func68, Tryz.ntmps68
 go_upto_region 1 with fail
 rw [HW1.out, HRB.out]
 go_upto_region 4 with fail
 rw [HW2.out, HQB.out]
 clear b0 b1 c0 s0 s1 s2 s3 s4 s5 k0 k1 k2 k3
 go_upto_region 7 with fail
 go_region
 go_upto_region 9 with fail
 obtain ⟨ob, hob⟩ : ∃ x, w2.heap.size = x := ⟨_, rfl⟩
 obtain ⟨w3, hw3⟩ : ∃ x, (w2.alloc (.cells #[.int .i64 S2, .int .i64 S2, .int .i64 0, .int .i64 0] 99)).drew = x := ⟨_, rfl⟩
 rw [hw3, hob]
 have B3 := hide' (show Below w2.heap.size w2 w3 by rw [← hw3]; exact ((Below.refl _ _).alloc (Nat.le_refl _) _).drew)
 have BW3 := hide' (B2.out.trans (B3.out.mono B2.out.size))
 have O3 := hide' (show w3.heap[ob]? = some (.cells #[.int .i64 S2, .int .i64 S2, .int .i64 0, .int .i64 0] 99 (0, 0)) by rw [← hw3, ← hob]; exact heap_alloc_new _ _)
 have R3 := hide' ((B3.out.block rb (lt_of_block R2.out)).trans R2.out)
 have Q3 := hide' ((B3.out.block qb (lt_of_block Q2.out)).trans Q2.out)
 have A3 := hide' (A2.out.below B3.out)
 have OBW := hide' (show rb < ob ∧ kb < ob ∧ kb < rb ∧ w.heap.size ≤ rb from by have := KBL.out; have := HRB.out; have := lt_of_block R2.out; omega)
 clear hob hw3 g1 g2 g2' g3 g4 g5 g6
 have c0 := cell_of_row w3 qb 0 _ _ _ Q3.out
 have c1 := cell_of_row w3 qb 1 _ _ _ Q3.out
 have c2 := cell_of_row w3 qb 2 _ _ _ Q3.out
 have c3 := cell_of_row w3 qb 3 _ _ _ Q3.out
 simp at c0 c1 c2 c3
 obtain ⟨p0, hp0⟩ : ∃ x, Q.a = x := ⟨_, rfl⟩
 obtain ⟨p1, hp1⟩ : ∃ x, Q.b = x := ⟨_, rfl⟩
 obtain ⟨p2, hp2⟩ : ∃ x, Q.c = x := ⟨_, rfl⟩
 obtain ⟨p3, hp3⟩ : ∃ x, Q.d = x := ⟨_, rfl⟩
 have HPP := hide' (show ∀ j, p4 p0 p1 p2 p3 j = prt (sqA qs t) j from fun j => by rw [← HQP.out j, ← hp0, ← hp1, ← hp2, ← hp3]; rfl)
 rw [hp0, hp1, hp2, hp3]
 rw [hp0] at c0
 rw [hp1] at c1
 rw [hp2] at c2
 rw [hp3] at c3
 have IX := hide' (fun (i : Nat) (hi : i < 4) (V : World) => index_p4 (a := p0) (b := p1) (c := p2) (d := p3) hi V)
 clear hp0 hp1 hp2 hp3
 go_wp2
 clear c0 c1 c2 c3
 go_loopw [70] (fun iv wr => ∃ (i : Nat) (l u r d : Int) (kn' : Nat → Nat → Int), iv = .int .i64 (i : Int) ∧ i ≤ 4 ∧ Hid (BoA wr bb sb B g cap kb qs kn') ∧ Hid (wr.heap[ob]? = some (.cells #[.int .i64 l, .int .i64 u, .int .i64 r, .int .i64 d] 99 (0, 0))) ∧ Hid (wr.heap[rb]? = some (.cells #[.int .i64 0, .int .i64 0, .int .i64 0, .int .i64 0] 99 (0, 0))) ∧ Hid (PaB (2 * sideI n) (upQ qs n (prt (sqA qs t)) i) l u r d) ∧ Hid (KpW kb w wr)) (fun iv _ => 4 - (intOf iv).toNat)
 case atStart => exact ⟨0, S2, S2, 0, 0, kn, rfl, by omega, A3, O3, R3, hide' (Or.inl ⟨fun _ _ => rfl, by have := HSS.out; omega, by have := HSS.out; omega, rfl, rfl⟩), hide' (KpW.of_below BW3.out)⟩
 case round =>
  obtain ⟨i, l, u, r, d, kn', rfl, hi, HA, HO, HR, HP, HKP⟩ := hrel
  by_cases di : i < 4
  ·have d1 : (i : Int) < 4 := by omega
   have ix := IX.out i di
   obtain ⟨pt, hpt⟩ : ∃ x, p4 p0 p1 p2 p3 i = x := ⟨_, rfl⟩
   rw [hpt] at ix
   have PT := hide' (show prt (sqA qs t) i = pt by rw [← HPP.out, hpt])
   clear hpt
   by_cases z : pt = 0
   ·subst z
    have z1 : (((0 : Nat) : Int) != 0) = false := by simp
    have NP := hide' (PaB.skip HB.out.stk.st PT.out HP.out)
    go_wp2
    exact ⟨⟨i + 1, l, u, r, d, kn', by go_num, by omega, HA, HO, HR, NP, HKP⟩, by simp [intOf]; omega⟩
   ·have z1 : ((pt : Int) != 0) = true := by simp; omega
    have WP := hide' (show WFQ qs n pt by rw [← PT.out]; exact HW.out.1.prt HB.out.stk.st i)
    have f1 : (L : Int) - 1 = (L' : Int) := by have := HSS.out; have := HLL.out; omega
    have f2 : L' ≤ 48 := by have := HSS.out; omega
    have OC := hide' (ih bb sb B g cap kb qs kn' pt L' wr HA.out WP.out z HSS.out.2.2.1 (by have := HSS.out; omega) HQ2.out)
    clear z
    go_wp2_with fail
    refine OC.out.mono ?_
    rintro o w5 ⟨l', u', r', d', kn5, rfl, bx, a5, k5⟩
    have BX := hide' bx
    have BI := hide' (box_in bx)
    have A5 := hide' a5
    have nrb : rb ≠ kb := by have := OBW.out; omega
    have nob : ob ≠ kb := by have := OBW.out; omega
    have O5 := hide' ((k5.keep ob (lt_of_block HO.out) nob).trans HO.out)
    have R5 := hide' ((k5.keep rb (lt_of_block HR.out) nrb).trans HR.out)
    have K5 := hide' (HKP.out.trans k5)
    obtain ⟨X, hX⟩ : ∃ x, (i : Int) % 2 * S1 = x := ⟨_, rfl⟩
    obtain ⟨Y, hY⟩ : ∃ x, (i : Int) / 2 * S1 = x := ⟨_, rfl⟩
    have XY := hide' (show ((X = ((i % 2 : Nat) : Int) * sideI n) ∧ (Y = ((i / 2 : Nat) : Int) * sideI n)) ∧ (0 ≤ X ∧ X ≤ S1 ∧ 0 ≤ Y ∧ Y ≤ S1) from by
     have ss := HSS.out
     rw [← hX, ← hY, ss.1]
     have : i = 0 ∨ i = 1 ∨ i = 2 ∨ i = 3 := by omega
     rcases this with rfl | rfl | rfl | rfl <;> simp <;> omega)
    have e1 : wrap64 ((i : Int) % 2 * S1) = X := by rw [hX]; have := XY.out.2; have := HSS.out; unfold wrap64; omega
    have e2 : wrap64 ((i : Int) / 2 * S1) = Y := by rw [hY]; have := XY.out.2; have := HSS.out; unfold wrap64; omega
    clear bx a5 k5 hX hY nrb nob
    go_upto_region 14 with fail
    rw [e1, e2]
    clear e1 e2
    obtain ⟨ib, hib⟩ : ∃ x, w5.heap.size = x := ⟨_, rfl⟩
    obtain ⟨w6, hw6⟩ : ∃ x, w5.alloc (.cells #[.int .i64 l', .int .i64 u', .int .i64 r', .int .i64 d'] 99) = x := ⟨_, rfl⟩
    rw [hw6, hib]
    have B6 := hide' (show Below w5.heap.size w5 w6 by rw [← hw6]; exact (Below.refl _ _).alloc (Nat.le_refl _) _)
    have I6 := hide' (show w6.heap[ib]? = some (.cells #[.int .i64 l', .int .i64 u', .int .i64 r', .int .i64 d'] 99 (0, 0)) by rw [← hw6, ← hib]; exact heap_alloc_new _ _)
    have O6 := hide' ((B6.out.block ob (lt_of_block O5.out)).trans O5.out)
    have NIO := hide' (show ib ≠ ob by have := lt_of_block O5.out; omega)
    clear hib hw6
    as_aux_lemma =>
     have pr := HP.out.range (by have := sideI_pos n; omega)
     have bi := BI.out
     have xy := XY.out.2
     have ss := HSS.out
     obtain ⟨a1, h1⟩ : ∃ x, X + l' = x := ⟨_, rfl⟩
     obtain ⟨a2, h2⟩ : ∃ x, X + r' = x := ⟨_, rfl⟩
     obtain ⟨a3, h3⟩ : ∃ x, Y + u' = x := ⟨_, rfl⟩
     obtain ⟨a4, h4⟩ : ∃ x, Y + d' = x := ⟨_, rfl⟩
     have v1 : IntKind.i64.wrap a1 = a1 := by simp [IntKind.wrap, IntKind.bits, IntKind.signed]; omega
     have v2 : IntKind.i64.wrap a2 = a2 := by simp [IntKind.wrap, IntKind.bits, IntKind.signed]; omega
     have v3 : IntKind.i64.wrap a3 = a3 := by simp [IntKind.wrap, IntKind.bits, IntKind.signed]; omega
     have v4 : IntKind.i64.wrap a4 = a4 := by simp [IntKind.wrap, IntKind.bits, IntKind.signed]; omega
     have HAA := hide' (And.intro h1 (And.intro h2 (And.intro h3 h4)))
     have o0 := cell_of_row w6 ob 0 _ _ _ O6.out
     have o2 := cell_of_row w6 ob 2 _ _ _ O6.out
     have j0 := cell_of_row w6 ib 0 _ _ _ I6.out
     have j2 := cell_of_row w6 ib 2 _ _ _ I6.out
     have y0 := frozen_of_row w6 ob 0 _ _ O6.out
     have y2 := frozen_of_row w6 ob 2 _ _ O6.out
     simp at o0 o2 j0 j2
     clear pr bi xy ss
     go_region
     obtain ⟨w7, hw7⟩ : ∃ x, ((w6.setCell ⟨ob, 0, none⟩ (.int .i64 (min l a1))).setCell ⟨ob, 2, none⟩ (.int .i64 (max r a2))).drew = x := ⟨_, rfl⟩
     rw [hw7]
     have O7 := hide' (show w7.heap[ob]? = some (.cells #[.int .i64 (min l a1), .int .i64 u, .int .i64 (max r a2), .int .i64 d] 99 (0, 0)) by
      rw [← hw7]
      have q0 : (w6.setCell ⟨ob, 0, none⟩ (.int .i64 (min l a1))).heap[ob]? = some (.cells #[.int .i64 (min l a1), .int .i64 u, .int .i64 r, .int .i64 d] 99 (0, 0)) := by rw [heap_setCell_same _ _ _ _ _ _ O6.out]; rfl
      show ((w6.setCell ⟨ob, 0, none⟩ (.int .i64 (min l a1))).setCell ⟨ob, 2, none⟩ (.int .i64 (max r a2))).heap[ob]? = _
      rw [heap_setCell_same _ _ _ _ _ _ q0]; rfl)
     have E7 := hide' (show (∀ q, q ≠ ob → w7.heap[q]? = w6.heap[q]?) ∧ w7.heap.size = w6.heap.size ∧ w7.os = w6.os ∧ w7.tape = w6.tape ∧ w7.output = w6.output from by
      rw [← hw7]
      refine ⟨fun q hq => ?_, ?_, rfl, rfl, rfl⟩
      ·show ((w6.setCell ⟨ob, 0, none⟩ (.int .i64 (min l a1))).setCell ⟨ob, 2, none⟩ (.int .i64 (max r a2))).heap[q]? = _
       rw [Below.heap_setCell _ _ _ _ (by simpa using hq), Below.heap_setCell _ _ _ _ (by simpa using hq)]
      ·show ((w6.setCell ⟨ob, 0, none⟩ (.int .i64 (min l a1))).setCell ⟨ob, 2, none⟩ (.int .i64 (max r a2))).heap.size = _
       rw [World.size_setCell, World.size_setCell])
     have I7 := hide' ((E7.out.1 ib NIO.out).trans I6.out)
     obtain ⟨nl, hnl⟩ : ∃ x, min l a1 = x := ⟨_, rfl⟩
     obtain ⟨nr, hnr⟩ : ∃ x, max r a2 = x := ⟨_, rfl⟩
     rw [hnl, hnr] at O7
     have HNR := hide' (And.intro hnl hnr)
     rw [hnl, hnr]
     clear hw7 o0 o2 j0 j2 y0 y2 hnl hnr h1 h2
     as_aux_lemma =>
      have o1 := cell_of_row w7 ob 1 _ _ _ O7.out
      have o3 := cell_of_row w7 ob 3 _ _ _ O7.out
      have j1 := cell_of_row w7 ib 1 _ _ _ I7.out
      have j3 := cell_of_row w7 ib 3 _ _ _ I7.out
      have y1 := frozen_of_row w7 ob 1 _ _ O7.out
      have y3 := frozen_of_row w7 ob 3 _ _ O7.out
      simp at o1 o3 j1 j3
      go_upto_region 15 with fail
      go_region
      clear v1 v2 v3 v4 h3 h4
      obtain ⟨w8, hw8⟩ : ∃ x, ((w7.setCell ⟨ob, 1, none⟩ (.int .i64 (min u a3))).setCell ⟨ob, 3, none⟩ (.int .i64 (max d a4))).drew = x := ⟨_, rfl⟩
      rw [hw8]
      have O8 := hide' (show w8.heap[ob]? = some (.cells #[.int .i64 nl, .int .i64 (min u a3), .int .i64 nr, .int .i64 (max d a4)] 99 (0, 0)) by
       rw [← hw8]
       have q0 : (w7.setCell ⟨ob, 1, none⟩ (.int .i64 (min u a3))).heap[ob]? = some (.cells #[.int .i64 nl, .int .i64 (min u a3), .int .i64 nr, .int .i64 d] 99 (0, 0)) := by rw [heap_setCell_same _ _ _ _ _ _ O7.out]; rfl
       show ((w7.setCell ⟨ob, 1, none⟩ (.int .i64 (min u a3))).setCell ⟨ob, 3, none⟩ (.int .i64 (max d a4))).heap[ob]? = _
       rw [heap_setCell_same _ _ _ _ _ _ q0]; rfl)
      have E8 := hide' (show (∀ q, q ≠ ob → w8.heap[q]? = w7.heap[q]?) ∧ w8.heap.size = w7.heap.size ∧ w8.os = w7.os ∧ w8.tape = w7.tape ∧ w8.output = w7.output from by
       rw [← hw8]
       refine ⟨fun q hq => ?_, ?_, rfl, rfl, rfl⟩
       ·show ((w7.setCell ⟨ob, 1, none⟩ (.int .i64 (min u a3))).setCell ⟨ob, 3, none⟩ (.int .i64 (max d a4))).heap[q]? = _
        rw [Below.heap_setCell _ _ _ _ (by simpa using hq), Below.heap_setCell _ _ _ _ (by simpa using hq)]
       ·show ((w7.setCell ⟨ob, 1, none⟩ (.int .i64 (min u a3))).setCell ⟨ob, 3, none⟩ (.int .i64 (max d a4))).heap.size = _
        rw [World.size_setCell, World.size_setCell])
      have K8 := hide' (show KpW kb w w8 from by
       have k := K5.out
       have e7 := E7.out
       have e8 := E8.out
       have b6 := B6.out
       have ow := OBW.out
       refine ⟨(e8.2.2.1.trans e7.2.2.1).trans (b6.os.trans k.os), (e8.2.2.2.1.trans e7.2.2.2.1).trans (b6.tape.trans k.tape), (e8.2.2.2.2.trans e7.2.2.2.2).trans (b6.output.trans k.output), by have := k.size; have := b6.size; omega, fun q h1 h2 => ?_⟩
       exact (e8.1 q (by omega)).trans ((e7.1 q (by omega)).trans ((b6.block q (by have := k.size; omega)).trans (k.keep q h1 h2))))
      have A8 := hide' (show BoA w8 bb sb B g cap kb qs kn5 from HB.out.keep K8.out ((E8.out.1 kb (by have := OBW.out; omega)).trans ((E7.out.1 kb (by have := OBW.out; omega)).trans ((B6.out.block kb (lt_of_block A5.out.kno)).trans A5.out.kno))) A5.out.rig)
      have R8 := hide' (show w8.heap[rb]? = some (.cells #[.int .i64 0, .int .i64 0, .int .i64 0, .int .i64 0] 99 (0, 0)) from (E8.out.1 rb (by have := OBW.out; omega)).trans ((E7.out.1 rb (by have := OBW.out; omega)).trans ((B6.out.block rb (lt_of_block R5.out)).trans R5.out)))
      have P8 := hide' (show PaB (2 * sideI n) (upQ qs n (prt (sqA qs t)) (i + 1)) nl (min u a3) nr (max d a4) from by
       have q := HP.out.next di (by rw [PT.out]; exact BX.out) BI.out.1 XY.out.1.1 XY.out.1.2
       rw [HAA.out.1, HAA.out.2.1, HAA.out.2.2.1, HAA.out.2.2.2, HNR.out.1, HNR.out.2] at q
       exact q)
      clear hw8 o1 o3 j1 j3 y1 y3
      go_wp2
      exact ⟨⟨i + 1, nl, _, nr, _, kn5, by go_num, by omega, A8, O8, R8, P8, K8⟩, by simp [intOf]; omega⟩
  ·have d1 : ¬ (i : Int) < 4 := by omega
   obtain rfl : i = 4 := by omega
   as_aux_lemma =>
    have VB := hide' (HP.out.all HB.out.stk.st HW.out.1 HW.out.2)
    have o0 := cell_of_row wr ob 0 _ _ _ HO.out
    have o1 := cell_of_row wr ob 1 _ _ _ HO.out
    have o2 := cell_of_row wr ob 2 _ _ _ HO.out
    have o3 := cell_of_row wr ob 3 _ _ _ HO.out
    have g1 := cell_of_row wr bb 1 _ _ _ HA.out.blk
    have z0 := HA.out.kno.cell (HN.out.symm ▸ LT.out) (j := 0) (by omega)
    have z1 := HA.out.kno.cell (HN.out.symm ▸ LT.out) (j := 1) (by omega)
    have z2 := HA.out.kno.cell (HN.out.symm ▸ LT.out) (j := 2) (by omega)
    have z3 := HA.out.kno.cell (HN.out.symm ▸ LT.out) (j := 3) (by omega)
    have y0 := frozen_of_row wr kb (t * 4) _ _ HA.out.kno
    have y1 := frozen_of_row wr kb (t * 4 + 1) _ _ HA.out.kno
    have y2 := frozen_of_row wr kb (t * 4 + 2) _ _ HA.out.kno
    have y3 := frozen_of_row wr kb (t * 4 + 3) _ _ HA.out.kno
    simp at o0 o1 o2 o3 g1 z0
    rw [HN.out] at g1
    obtain ⟨X, hX⟩ : ∃ X, ((((wr.setCell ⟨kb, t * 4, none⟩ (.int .i64 l)).setCell ⟨kb, t * 4 + 1, none⟩ (.int .i64 u)).setCell ⟨kb, t * 4 + 2, none⟩ (.int .i64 r)).setCell ⟨kb, t * 4 + 3, none⟩ (.int .i64 d)).drew = X := ⟨_, rfl⟩
    have HX := hide' hX
    have nk : kb ≠ ob ∧ kb ≠ rb := by have := OBW.out; omega
    have KX := hide' (show KpW kb w X by rw [← hX]; exact ((((HKP.out.set _).set _).set _).set _).drew)
    have NX := hide' (show KnB X kb qs.length (putK kn' t l u r d) by rw [← hX]; exact HA.out.kno.put t _ _ _ _)
    have AX := hide' (HB.out.keep KX.out NX.out (HA.out.rig.put HW.out.2 HW.out.1 VB.out))
    have OX := hide' (show X.heap[ob]? = some (.cells #[.int .i64 l, .int .i64 u, .int .i64 r, .int .i64 d] 99 (0, 0)) by rw [← hX]; exact (four_elseK (fun e => nk.1 e.symm) _ _ _ _).trans HO.out)
    have RX := hide' (show X.heap[rb]? = some (.cells #[.int .i64 0, .int .i64 0, .int .i64 0, .int .i64 0] 99 (0, 0)) by rw [← hX]; exact (four_elseK (fun e => nk.2 e.symm) _ _ _ _).trans HR.out)
    clear hX nk
    go_upto_region 17 with fail
    go_region
    rw [HX.out]
    clear o0 o1 o2 o3 g1 z0 z1 z2 z3 y0 y1 y2 y3
    have o0 := cell_of_row X ob 0 _ _ _ OX.out
    have o1 := cell_of_row X ob 1 _ _ _ OX.out
    have o2 := cell_of_row X ob 2 _ _ _ OX.out
    have o3 := cell_of_row X ob 3 _ _ _ OX.out
    have x0 := cell_of_row X rb 0 _ _ _ RX.out
    have x1 := cell_of_row X rb 1 _ _ _ RX.out
    have x2 := cell_of_row X rb 2 _ _ _ RX.out
    have x3 := cell_of_row X rb 3 _ _ _ RX.out
    have f0 := frozen_of_row X rb 0 _ _ RX.out
    have f1 := frozen_of_row X rb 1 _ _ RX.out
    have f2 := frozen_of_row X rb 2 _ _ RX.out
    have f3 := frozen_of_row X rb 3 _ _ RX.out
    simp at o0 o1 o2 o3 x0 x1 x2 x3
    go_wp2
    obtain ⟨Z, hZ⟩ : ∃ Z, (((X.setCell ⟨rb, 0, none⟩ (.int .i64 l)).setCell ⟨rb, 1, none⟩ (.int .i64 u)).setCell ⟨rb, 2, none⟩ (.int .i64 r)).setCell ⟨rb, 3, none⟩ (.int .i64 d) = Z := ⟨_, rfl⟩
    have GZ : Z.heap[rb]? = some (.cells #[.int .i64 l, .int .i64 u, .int .i64 r, .int .i64 d] 99 (0, 0)) := by rw [← hZ]; exact span_res RX.out _ _ _ _
    have ow := OBW.out
    have KZ : KpW kb w Z := by
     have k := KX.out
     rw [← hZ]
     exact ⟨k.os, k.tape, k.output, by simp only [World.size_setCell]; exact k.size, fun q h1 h2 => (four_elseK (by omega) _ _ _ _).trans (k.keep q h1 h2)⟩
    have AZ : BoA Z bb sb B g cap kb qs (putK kn' t l u r d) := by
     refine HB.out.keep KZ ?_ AX.out.rig
     rw [← hZ]
     exact (four_elseK (by omega) _ _ _ _).trans NX.out
    rw [hZ]
    have i0 := cell_of_row Z _ 0 _ _ _ GZ
    have i1 := cell_of_row Z _ 1 _ _ _ GZ
    have i2 := cell_of_row Z _ 2 _ _ _ GZ
    have i3 := cell_of_row Z _ 3 _ _ _ GZ
    simp at i0 i1 i2 i3
    refine bodyPost_ret (v := .agg #[.int .i64 l, .int .i64 u, .int .i64 r, .int .i64 d]) (by simp [results, Tryz.results68, go_sem, i0, i1, i2, i3]) rfl ?_
    exact ⟨l, u, r, d, _, rfl, VB.out, AZ, KZ⟩
theorem of_any : ∀ n, OfC n
 | 0 => by
  intro bb sb B g cap kb qs kn t L w h hw t0 hL hn hq
  by_cases hk : ∀ j, j < 4 → kn t j = 0
  ·subst hL; exact of_eight bb sb B g cap kb qs kn t w h hw t0 hq hk
  ·exact of_known 0 bb sb B g cap kb qs kn t L w h hw t0 hq hk
 | n + 1 => by
  intro bb sb B g cap kb qs kn t L w h hw t0 hL hn hq
  by_cases hk : ∀ j, j < 4 → kn t j = 0
  ·exact of_four n (of_any n) bb sb B g cap kb qs kn t L w h hw t0 (by omega) (by omega) hq hk
  ·exact of_known (n + 1) bb sb B g cap kb qs kn t L w h hw t0 hq hk

theorem info_span : (Tryz.prog.info? 99).map (fun i => (i.zero, i.size, i.bytes)) = some (some (.agg #[.int .i64 0, .int .i64 0, .int .i64 0, .int .i64 0]), 4, 32) := by kernel_rfl
theorem made4 (n : Nat) : madeCells #[.int .i64 0, .int .i64 0, .int .i64 0, .int .i64 0] n = arrF n (fun _ => .int .i64 0) := by
 apply Array.ext
 ·simp [arrF, size_madeCells]
 intro i h1 h2
 have key : ∀ j, j < 4 → (#[.int .i64 0, .int .i64 0, .int .i64 0, .int .i64 0] : Array Value)[j]! = .int .i64 0 := fun j hj => by
  match j, hj with
  | 0, _ => rfl
  | 1, _ => rfl
  | 2, _ => rfl
  | 3, _ => rfl
 have e1 : (madeCells #[.int .i64 0, .int .i64 0, .int .i64 0, .int .i64 0] n)[i] = (#[.int .i64 0, .int .i64 0, .int .i64 0, .int .i64 0] : Array Value)[i % 4]! := by simp [madeCells]
 rw [e1, key _ (by omega)]
 simp [arrF]
theorem mk_span (n : Nat) (hn : n ≤ 2000001) (w : World) : (Instr.makeSlice 141 (.int .i64 (n : Int)) (.int .i64 (n : Int))).run Tryz.prog w = .ok (.slice (some ⟨w.heap.size, 0, none⟩) n n) (w.alloc (.cells (arrF (n * 4) fun _ => .int .i64 0) 99)) := by
 obtain ⟨i, hi, hzz⟩ := Option.map_eq_some_iff.1 info_span
 simp only [Prod.mk.injEq] at hzz
 obtain ⟨hz, hs, hb⟩ := hzz
 have h := run_make (P := Tryz.prog) w 141 99 i _ Tryz.underlying141 hi hz .i64 .i64 (n : Int) (n : Int) (by omega) (by omega) (by rw [hb]; omega) (by omega)
 rw [hs] at h
 have e : madeCells (Value.agg #[.int .i64 0, .int .i64 0, .int .i64 0, .int .i64 0]).cells ((n : Int).toNat * 4) = arrF (n * 4) (fun _ => .int .i64 0) := by
  rw [Int.toNat_natCast]; exact made4 (n * 4)
 rw [e] at h
 simpa using h
def BxP (qs : List Sq) (n t : Nat) (w : World) (e : Ending) (w' : World) : Prop := ∃ (l u r d : Int), e = .returned (.agg #[.int .i64 l, .int .i64 u, .int .i64 r, .int .i64 d]) ∧ BxF (valQ qs n t) l u r d ∧ Below w.heap.size w w'
set_option maxRecDepth 100000 in
set_option maxHeartbeats 6400000 in
theorem box_any (sb B g cap : Nat) (qs : List Sq) (n t L : Nat) (fr fd : Int) (w : World) (hf : StkA w sb B g cap qs) (hl : qs.length ≤ 2000000) (hw : WFQ qs n t) (t0 : t ≠ 0) (hL : L = n + 3) (hn : n ≤ 43) (hz : TzTab w) :
  Calls Tryz.prog 35 #[.agg #[.pointer (some ⟨sb, 0, none⟩), .int .i32 (t : Int), .int .i64 (L : Int), .int .i64 fr, .int .i64 fd]] w (BxP qs n t w) := by
 obtain ⟨w2, hw2⟩ : ∃ w2, (w.alloc (.cells #[.pointer (some ⟨sb, 0, none⟩), .int .i32 (t : Int), .int .i64 (L : Int), .int .i64 fr, .int .i64 fd] 72)).alloc (.cells #[.int .i64 0, .int .i64 0, .int .i64 0, .int .i64 0] 99) = w2 := ⟨_, rfl⟩
 obtain ⟨fb, hfbb⟩ : ∃ fb, w.heap.size = fb := ⟨_, rfl⟩
 have HW2 := hide' hw2
 have HFB := hide' hfbb
 have B2 := hide' (show Below w.heap.size w w2 by rw [← hw2]; exact ((Below.refl _ _).alloc (Nat.le_refl _) _).alloc (by simp) _)
 have F2 := hide' (show w2.heap[fb]? = some (.cells #[.pointer (some ⟨sb, 0, none⟩), .int .i32 (t : Int), .int .i64 (L : Int), .int .i64 fr, .int .i64 fd] 72 (0, 0)) by rw [← hw2, ← hfbb]; exact (heap_alloc_old _ _ (by simp)).trans (heap_alloc_new w _))
 have R2 := hide' (show w2.heap[fb + 1]? = some (.cells #[.int .i64 0, .int .i64 0, .int .i64 0, .int .i64 0] 99 (0, 0)) by rw [← hw2]; exact heap_atX _ _ _ (by simp [hfbb]))
 have Z2 := hide' (show w2.heap.size = fb + 2 by rw [← hw2]; simp [hfbb])
 have KF := hide' (hf.below B2.out)
 have LF := hide' hf.lt
 have HL := hide' hl
 have HW := hide' (And.intro hw (And.intro t0 (And.intro hL hn)))
 have TZ := hide' (hz.below B2.out)
 have TL := hide' (tz_lt hz)
 obtain ⟨N, hN⟩ : ∃ N, qs.length = N := ⟨_, rfl⟩
 have mk := mk_span N (by omega)
 have HN := hide' hN
 have s0 := KF.out.c0
 have f0 := cell_of_row w2 fb 0 _ _ _ F2.out
 rw [hN] at s0
 simp at f0
 clear hw2 hfbb hf hl hw t0 hL hn hz hN
 go_enter Tryz.func35, Tryz.ntmps35
 go_upto_region 1 with fail
 rw [HW2.out, HFB.out]
 refine cut3P (P := fun mb nb V => Hid ((BoA V mb sb B g cap nb qs (fun _ _ => 0) ∧ Below w2.heap.size w2 V) ∧ w2.heap.size ≤ nb)) (Φ := ?PH) (fun CUT => ?mn) ?rs
 case mn =>
  go_region_held3 (fun V => V.cell? ⟨fb, 0, none⟩ = some (.pointer (some ⟨sb, 0, none⟩)) ∧ V.cell? ⟨sb, 0, none⟩ = some (.slice (some ⟨g, 0, none⟩) N cap)) (first | exact ⟨f0, s0⟩ | go_keep) (fail)
  ·obtain ⟨mb, hp⟩ : ∃ p, w2.heap.size + 1 = p := ⟨_, rfl⟩
   obtain ⟨nb, hq⟩ : ∃ q, w2.heap.size = q := ⟨_, rfl⟩
   rw [hp, hq]
   obtain ⟨V, hV⟩ : ∃ V, ((w2.alloc (.cells (arrF (N * 4) fun _ => .int .i64 0) 99)).alloc (.cells #[.pointer (some ⟨sb, 0, none⟩), .slice (some ⟨nb, 0, none⟩) N N] 143)).drew = V := ⟨_, rfl⟩
   rw [hV]
   have BV : Below w2.heap.size w2 V := by rw [← hV]; exact (((Below.refl _ _).alloc (Nat.le_refl _) _).alloc (by simp) _).drew
   have T8 := hide' (show (BoA V mb sb B g cap nb qs (fun _ _ => 0) ∧ Below w2.heap.size w2 V) ∧ w2.heap.size ≤ nb from
    ⟨⟨⟨by rw [← hV, HN.out]; exact heap_atX _ _ _ (by simp; omega), KF.out.below BV, by unfold KnB; rw [← hV, HN.out]; exact (heap_alloc_old (w2.alloc _) _ (by simp; omega)).trans (heap_atX _ _ _ hq.symm), fun i _ => Or.inl fun j _ => rfl, TZ.out.below BV, by have := TL.out; have := Z2.out; have := HFB.out; omega⟩, BV⟩, by omega⟩)
   exact CUT _ _ _ T8
  ·obtain ⟨nb, hp⟩ : ∃ p, w2.heap.size + 1 = p := ⟨_, rfl⟩
   obtain ⟨mb, hq⟩ : ∃ q, w2.heap.size = q := ⟨_, rfl⟩
   rw [hp, hq]
   obtain ⟨V, hV⟩ : ∃ V, ((w2.alloc (.cells #[.pointer (some ⟨sb, 0, none⟩), .slice (some ⟨nb, 0, none⟩) N N] 143)).alloc (.cells (arrF (N * 4) fun _ => .int .i64 0) 99)).drew = V := ⟨_, rfl⟩
   rw [hV]
   have BV : Below w2.heap.size w2 V := by rw [← hV]; exact (((Below.refl _ _).alloc (Nat.le_refl _) _).alloc (by simp) _).drew
   have T8 := hide' (show (BoA V mb sb B g cap nb qs (fun _ _ => 0) ∧ Below w2.heap.size w2 V) ∧ w2.heap.size ≤ nb from
    ⟨⟨⟨by rw [← hV, HN.out]; exact (heap_alloc_old (w2.alloc _) _ (by simp; omega)).trans (heap_atX _ _ _ hq.symm), KF.out.below BV, by unfold KnB; rw [← hV, HN.out]; exact heap_atX _ _ _ (by simp; omega), fun i _ => Or.inl fun j _ => rfl, TZ.out.below BV, by have := TL.out; have := Z2.out; have := HFB.out; omega⟩, BV⟩, by omega⟩)
   exact CUT _ _ _ T8
 case rs =>
  intro mb nb V T9
  have T8 := hide' T9.out.1
  have NB2 := hide' T9.out.2
  clear T9
  have FV1 := hide' ((T8.out.2.block _ (lt_of_block F2.out)).trans F2.out)
  have RV1 := hide' ((T8.out.2.block _ (lt_of_block R2.out)).trans R2.out)
  have f1 := cell_of_row V fb 1 _ _ _ FV1.out
  have f2 := cell_of_row V fb 2 _ _ _ FV1.out
  simp at f1 f2
  clear f0 s0
  go_wp2_with fail
  refine (of_any n mb sb B g cap nb qs (fun _ _ => 0) t L V T8.out.1 HW.out.1 HW.out.2.1 HW.out.2.2.1 HW.out.2.2.2 HL.out).mono ?_
  rintro e w4 ⟨l, u, r, d, kn', rfl, bx, ba, kp⟩
  have BX := hide' bx
  have zz := And.intro Z2.out (And.intro NB2.out HFB.out)
  have R4 := hide' ((kp.keep (fb + 1) (lt_of_block RV1.out) (by omega)).trans RV1.out)
  have B4 := hide' (show Below w.heap.size w w4 from B2.out.trans ((T8.out.2.mono B2.out.size).trans ⟨kp.os, kp.tape, kp.output, kp.size, fun k hk => kp.keep k (by have := T8.out.2.size; omega) (by omega)⟩))
  have r0 := frozen_of_row w4 _ 0 _ _ R4.out
  have r1 := frozen_of_row w4 _ 1 _ _ R4.out
  have r2 := frozen_of_row w4 _ 2 _ _ R4.out
  have r3 := frozen_of_row w4 _ 3 _ _ R4.out
  have c0 := cell_of_row w4 _ 0 _ _ _ R4.out
  have c1 := cell_of_row w4 _ 1 _ _ _ R4.out
  have c2 := cell_of_row w4 _ 2 _ _ _ R4.out
  have c3 := cell_of_row w4 _ 3 _ _ _ R4.out
  simp at c0 c1 c2 c3
  clear bx ba kp zz f1 f2 mk
  go_wp2
  obtain ⟨Z, hZ⟩ : ∃ Z, (((w4.setCell ⟨fb + 1, 0, none⟩ (.int .i64 l)).setCell ⟨fb + 1, 1, none⟩ (.int .i64 u)).setCell ⟨fb + 1, 2, none⟩ (.int .i64 r)).setCell ⟨fb + 1, 3, none⟩ (.int .i64 d) = Z := ⟨_, rfl⟩
  have GZ : Z.heap[fb + 1]? = some (.cells #[.int .i64 l, .int .i64 u, .int .i64 r, .int .i64 d] 99 (0, 0)) := by rw [← hZ]; exact span_res R4.out _ _ _ _
  have BZ : Below w.heap.size w Z := by
   have := HFB.out
   rw [← hZ]
   exact (((B4.out.setCell (by show _ ≤ fb + 1; omega) _).setCell (by show _ ≤ fb + 1; omega) _).setCell (by show _ ≤ fb + 1; omega) _).setCell (by show _ ≤ fb + 1; omega) _
  rw [hZ]
  clear hZ c0 c1 c2 c3 r0 r1 r2 r3
  have i0 := cell_of_row Z _ 0 _ _ _ GZ
  have i1 := cell_of_row Z _ 1 _ _ _ GZ
  have i2 := cell_of_row Z _ 2 _ _ _ GZ
  have i3 := cell_of_row Z _ 3 _ _ _ GZ
  simp at i0 i1 i2 i3
  refine bodyPost_ret (v := .agg #[.int .i64 l, .int .i64 u, .int .i64 r, .int .i64 d]) (by simp [results, Tryz.results35, go_sem, i0, i1, i2, i3]) rfl ?_
  exact ⟨l, u, r, d, rfl, BX.out, BZ⟩
def SbP (F : Int → Int → Int) (w : World) (e : Ending) (w' : World) : Prop := ∃ (x y W H : Int), e = .returned (.tuple #[.int .i64 x, .int .i64 y, .int .i64 W, .int .i64 H]) ∧ ((∃ u v, F u v ≠ 0) → BxF F x y (x + W) (y + H)) ∧ ((∀ u v, F u v = 0) → x = 0 ∧ y = 0 ∧ W = 0 ∧ H = 0) ∧ Below w.heap.size w w'
set_option maxRecDepth 100000 in
set_option maxHeartbeats 6400000 in
theorem sbox_any (spb B : Nat) (b s o : Int) (tv : Value) (M : Int) (F : Int → Int → Int) (K : Nat) (w : World) (hS : SpB w spb B b s o tv M F K) (hK : K ≤ 2000000) (hM : M ≤ 144115188075855872) (hz : TzTab w) :
  Calls Tryz.prog 13 #[.pointer (some ⟨spb, 0, none⟩)] w (SbP F w) := by
 obtain ⟨hB, sb, t, L, fr, fd, n, g, cap, qs, kp, hs, hf, tg, hl, hkp⟩ := hS
 have hs' := hs
 unfold spD at hs'
 have c11 := cell_of_row w spb 11 _ _ _ hs'
 have c12 := cell_of_row w spb 12 _ _ _ hs'
 have c13 := cell_of_row w spb 13 _ _ _ hs'
 have c14 := cell_of_row w spb 14 _ _ _ hs'
 have c15 := cell_of_row w spb 15 _ _ _ hs'
 simp at c11 c12 c13 c14 c15
 by_cases t0 : t = 0
 ·subst t0
  have FIN := hide' (show SbP F w (.returned (.tuple #[.int .i64 0, .int .i64 0, .int .i64 0, .int .i64 0])) w from ⟨0, 0, 0, 0, rfl, fun ⟨u, v, h⟩ => absurd (by rw [← hf.val, val_nil hf.stk.st]) h, fun _ => ⟨rfl, rfl, rfl, rfl⟩, Below.refl _ _⟩)
  clear hs hs' hf tg hl hkp hz
  go_enter Tryz.func13, Tryz.ntmps13
  go_wp2
  refine bodyPost_ret (v := .tuple #[.int .i64 0, .int .i64 0, .int .i64 0, .int .i64 0]) (by simp [results, Tryz.results13, go_sem]) rfl ?_
  exact FIN.out
 ·have z0 : ((t : Int) == 0) = false := by simp; omega
  have HS := hide' hs
  have BC := hide' (box_any sb B g cap qs n t L fr fd w hf.stk (by omega) hf.wf t0 hf.lev hf.hi hz)
  have VF := hide' hf.val
  have GE := hide' (And.intro hf.r1 (And.intro hf.r2 (And.intro hf.d1 (And.intro hf.d2 hM))))
  clear hs hs' hf tg hl hkp hz t0
  go_enter Tryz.func13, Tryz.ntmps13
  go_wp2_with fail
  refine BC.out.mono ?_
  rintro e w4 ⟨l, u, r, d, rfl, bx, b4⟩
  have BF := hide' (bx.shift VF.out)
  have BI := hide' (box_in bx)
  have S4 := hide' ((b4.block _ (lt_of_block HS.out)).trans HS.out)
  have B4 := hide' b4
  obtain ⟨zb, hzb⟩ : ∃ z, w4.heap.size = z := ⟨_, rfl⟩
  obtain ⟨w5, hw5⟩ : ∃ w5, w4.alloc (.cells #[.int .i64 l, .int .i64 u, .int .i64 r, .int .i64 d] 99) = w5 := ⟨_, rfl⟩
  have B5 := hide' (show Below w4.heap.size w4 w5 by rw [← hw5]; exact (Below.refl _ _).alloc (Nat.le_refl _) _)
  have Z5 := hide' (show w5.heap[zb]? = some (.cells #[.int .i64 l, .int .i64 u, .int .i64 r, .int .i64 d] 99 (0, 0)) by rw [← hw5]; exact heap_atX _ _ _ hzb.symm)
  have S5 := hide' ((B5.out.block _ (lt_of_block S4.out)).trans S4.out)
  have HW5 := hide' (And.intro hw5 hzb)
  clear bx b4 hw5 hzb c11 c12 c13 c14 c15
  go_upto_region 4 with fail
  rw [HW5.out.1, HW5.out.2]
  have k0 := S5.out
  unfold spD at k0
  have c14 := cell_of_row w5 spb 14 _ _ _ k0
  have c15 := cell_of_row w5 spb 15 _ _ _ k0
  have e0 := cell_of_row w5 zb 0 _ _ _ Z5.out
  have e1 := cell_of_row w5 zb 1 _ _ _ Z5.out
  have e2 := cell_of_row w5 zb 2 _ _ _ Z5.out
  have e3 := cell_of_row w5 zb 3 _ _ _ Z5.out
  simp at c14 c15 e0 e1 e2 e3
  clear k0
  obtain ⟨x, hx⟩ : ∃ x, fr + l = x := ⟨_, rfl⟩
  obtain ⟨y, hy⟩ : ∃ x, fd + u = x := ⟨_, rfl⟩
  obtain ⟨W, hW⟩ : ∃ x, r - l = x := ⟨_, rfl⟩
  obtain ⟨H, hH⟩ : ∃ x, d - u = x := ⟨_, rfl⟩
  have ge := GE.out
  have bi := BI.out
  have v1 : IntKind.i64.wrap x = x := by simp [IntKind.wrap, IntKind.bits, IntKind.signed]; omega
  have v2 : IntKind.i64.wrap y = y := by simp [IntKind.wrap, IntKind.bits, IntKind.signed]; omega
  have v3 : IntKind.i64.wrap W = W := by simp [IntKind.wrap, IntKind.bits, IntKind.signed]; omega
  have v4 : IntKind.i64.wrap H = H := by simp [IntKind.wrap, IntKind.bits, IntKind.signed]; omega
  have FIN := hide' (show ∀ V, Below w4.heap.size w4 V → SbP F w (.returned (.tuple #[.int .i64 x, .int .i64 y, .int .i64 W, .int .i64 H])) V from fun V hV => ⟨x, y, W, H, rfl, fun _ => by
   have q := BF.out
   rw [← hx, ← hy, show fr + l + W = fr + r by omega, show fd + u + H = fd + d by omega]
   exact q, fun q => by
   obtain ⟨y1, a1⟩ := BF.out.hl
   exact absurd (q _ _) a1, B4.out.trans (hV.mono B4.out.size)⟩)
  clear ge bi
  go_quiet (fail)
  clear v1 v2 v3 v4 hx hy hW hH
  go_wp2
  refine bodyPost_ret (v := .tuple #[.int .i64 x, .int .i64 y, .int .i64 W, .int .i64 H]) (by simp [results, Tryz.results13, go_sem]) rfl ?_
  exact FIN.out _ (below_drewN B5.out _)
theorem ArgP.atP {w : World} {xs : List Int} {a : Option Addr} {n c : Nat} (h : ArgP w xs a n c) {k : Nat} (hk : k < n) : ∃ g off, a = some ⟨g, off, none⟩ ∧ w.cell? ⟨g, off + k, none⟩ = some (.int .i64 (xs.getD k 0)) := by
 have hl := h.len
 obtain ⟨g, off, e, hg, hc⟩ := h.cells k (by omega)
 exact ⟨g, off, e, by rw [hc]; simp [List.getD, show k < xs.length by omega]⟩
end Go.Proofs.YtemhcpldflcfbaaGreatDoor
