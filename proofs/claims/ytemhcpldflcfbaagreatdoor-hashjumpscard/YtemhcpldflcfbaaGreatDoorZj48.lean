/-
  What the last text of this claim leans on, part 48: Hq7.
-/
import Derived.Test.YtemhcpldflcfbaaGreatDoorZj47
import Derived.Test.YtemhcpldflcfbaaGreatDoorZj35
namespace Go.Proofs.YtemhcpldflcfbaaGreatDoor
open Go.RowKit
set_option linter.unusedVariables false
theorem info_span : (Tryz.prog.info? 99).map (fun i => (i.zero, i.size, i.bytes)) = some (some (.agg #[.int .i64 0, .int .i64 0, .int .i64 0, .int .i64 0]), 4, 32) := by kernel_rfl
theorem made4 (n : Nat) : madeCells #[.int .i64 0, .int .i64 0, .int .i64 0, .int .i64 0] n = arrF n (fun _ => .int .i64 0) := by
 apply Array.ext
 ·simp [arrF, size_madeCells]
 intro i h1 h2
 have key : ∀ j, j < 4 → (#[.int .i64 0, .int .i64 0, .int .i64 0, .int .i64 0] : Array Value)[j]! = .int .i64 0 := fun j hj => by
  match j, hj with
  | 0, _ => rfl
  | 1, _ => rfl
  | 2, _ => rfl
  | 3, _ => rfl
 have e1 : (madeCells #[.int .i64 0, .int .i64 0, .int .i64 0, .int .i64 0] n)[i] = (#[.int .i64 0, .int .i64 0, .int .i64 0, .int .i64 0] : Array Value)[i % 4]! := by simp [madeCells]
 rw [e1, key _ (by omega)]
 simp [arrF]
theorem mk_span (n : Nat) (hn : n ≤ 2000001) (w : World) : (Instr.makeSlice 141 (.int .i64 (n : Int)) (.int .i64 (n : Int))).run Tryz.prog w = .ok (.slice (some ⟨w.heap.size, 0, none⟩) n n) (w.alloc (.cells (arrF (n * 4) fun _ => .int .i64 0) 99)) := by
 obtain ⟨i, hi, hzz⟩ := Option.map_eq_some_iff.1 info_span
 simp only [Prod.mk.injEq] at hzz
 obtain ⟨hz, hs, hb⟩ := hzz
 have h := run_make (P := Tryz.prog) w 141 99 i _ Tryz.underlying141 hi hz .i64 .i64 (n : Int) (n : Int) (by omega) (by omega) (by rw [hb]; omega) (by omega)
 rw [hs] at h
 have e : madeCells (Value.agg #[.int .i64 0, .int .i64 0, .int .i64 0, .int .i64 0]).cells ((n : Int).toNat * 4) = arrF (n * 4) (fun _ => .int .i64 0) := by
  rw [Int.toNat_natCast]; exact made4 (n * 4)
 rw [e] at h
 simpa using h
def BxP (qs : List Sq) (n t : Nat) (w : World) (e : Ending) (w' : World) : Prop := ∃ (l u r d : Int), e = .returned (.agg #[.int .i64 l, .int .i64 u, .int .i64 r, .int .i64 d]) ∧ BxF (valQ qs n t) l u r d ∧ Below w.heap.size w w'
set_option maxRecDepth 100000 in
set_option maxHeartbeats 6400000 in
theorem box_any (sb B g cap : Nat) (qs : List Sq) (n t L : Nat) (fr fd : Int) (w : World) (hf : StkA w sb B g cap qs) (hl : qs.length ≤ 2000000) (hw : WFQ qs n t) (t0 : t ≠ 0) (hL : L = n + 3) (hn : n ≤ 43) (hz : TzTab w) :
  Calls Tryz.prog 35 #[.agg #[.pointer (some ⟨sb, 0, none⟩), .int .i32 (t : Int), .int .i64 (L : Int), .int .i64 fr, .int .i64 fd]] w (BxP qs n t w) := by
 obtain ⟨w2, hw2⟩ : ∃ w2, (w.alloc (.cells #[.pointer (some ⟨sb, 0, none⟩), .int .i32 (t : Int), .int .i64 (L : Int), .int .i64 fr, .int .i64 fd] 72)).alloc (.cells #[.int .i64 0, .int .i64 0, .int .i64 0, .int .i64 0] 99) = w2 := ⟨_, rfl⟩
 obtain ⟨fb, hfbb⟩ : ∃ fb, w.heap.size = fb := ⟨_, rfl⟩
 have HW2 := hide' hw2
 have HFB := hide' hfbb
 have B2 := hide' (show Below w.heap.size w w2 by rw [← hw2]; exact ((Below.refl _ _).alloc (Nat.le_refl _) _).alloc (by simp) _)
 have F2 := hide' (show w2.heap[fb]? = some (.cells #[.pointer (some ⟨sb, 0, none⟩), .int .i32 (t : Int), .int .i64 (L : Int), .int .i64 fr, .int .i64 fd] 72 (0, 0)) by rw [← hw2, ← hfbb]; exact (heap_alloc_old _ _ (by simp)).trans (heap_alloc_new w _))
 have R2 := hide' (show w2.heap[fb + 1]? = some (.cells #[.int .i64 0, .int .i64 0, .int .i64 0, .int .i64 0] 99 (0, 0)) by rw [← hw2]; exact heap_atX _ _ _ (by simp [hfbb]))
 have Z2 := hide' (show w2.heap.size = fb + 2 by rw [← hw2]; simp [hfbb])
 have KF := hide' (hf.below B2.out)
 have LF := hide' hf.lt
 have HL := hide' hl
 have HW := hide' (And.intro hw (And.intro t0 (And.intro hL hn)))
 have TZ := hide' (hz.below B2.out)
 have TL := hide' (tz_lt hz)
 obtain ⟨N, hN⟩ : ∃ N, qs.length = N := ⟨_, rfl⟩
 have mk := mk_span N (by omega)
 have HN := hide' hN
 have s0 := KF.out.c0
 have f0 := cell_of_row w2 fb 0 _ _ _ F2.out
 rw [hN] at s0
 simp at f0
 clear hw2 hfbb hf hl hw t0 hL hn hz hN
 go_enter Tryz.func35, Tryz.ntmps35
 go_upto_region 1 with fail
 rw [HW2.out, HFB.out]
 refine cut3P (P := fun mb nb V => Hid ((BoA V mb sb B g cap nb qs (fun _ _ => 0) ∧ Below w2.heap.size w2 V) ∧ w2.heap.size ≤ nb)) (Φ := ?PH) (fun CUT => ?mn) ?rs
 case mn =>
  go_region_held3 (fun V => V.cell? ⟨fb, 0, none⟩ = some (.pointer (some ⟨sb, 0, none⟩)) ∧ V.cell? ⟨sb, 0, none⟩ = some (.slice (some ⟨g, 0, none⟩) N cap)) (first | exact ⟨f0, s0⟩ | go_keep) (fail)
  ·obtain ⟨mb, hp⟩ : ∃ p, w2.heap.size + 1 = p := ⟨_, rfl⟩
   obtain ⟨nb, hq⟩ : ∃ q, w2.heap.size = q := ⟨_, rfl⟩
   rw [hp, hq]
   obtain ⟨V, hV⟩ : ∃ V, ((w2.alloc (.cells (arrF (N * 4) fun _ => .int .i64 0) 99)).alloc (.cells #[.pointer (some ⟨sb, 0, none⟩), .slice (some ⟨nb, 0, none⟩) N N] 143)).drew = V := ⟨_, rfl⟩
   rw [hV]
   have BV : Below w2.heap.size w2 V := by rw [← hV]; exact (((Below.refl _ _).alloc (Nat.le_refl _) _).alloc (by simp) _).drew
   have T8 := hide' (show (BoA V mb sb B g cap nb qs (fun _ _ => 0) ∧ Below w2.heap.size w2 V) ∧ w2.heap.size ≤ nb from
    ⟨⟨⟨by rw [← hV, HN.out]; exact heap_atX _ _ _ (by simp; omega), KF.out.below BV, by unfold KnB; rw [← hV, HN.out]; exact (heap_alloc_old (w2.alloc _) _ (by simp; omega)).trans (heap_atX _ _ _ hq.symm), fun i _ => Or.inl fun j _ => rfl, TZ.out.below BV, by have := TL.out; have := Z2.out; have := HFB.out; omega⟩, BV⟩, by omega⟩)
   exact CUT _ _ _ T8
  ·obtain ⟨nb, hp⟩ : ∃ p, w2.heap.size + 1 = p := ⟨_, rfl⟩
   obtain ⟨mb, hq⟩ : ∃ q, w2.heap.size = q := ⟨_, rfl⟩
   rw [hp, hq]
   obtain ⟨V, hV⟩ : ∃ V, ((w2.alloc (.cells #[.pointer (some ⟨sb, 0, none⟩), .slice (some ⟨nb, 0, none⟩) N N] 143)).alloc (.cells (arrF (N * 4) fun _ => .int .i64 0) 99)).drew = V := ⟨_, rfl⟩
   rw [hV]
   have BV : Below w2.heap.size w2 V := by rw [← hV]; exact (((Below.refl _ _).alloc (Nat.le_refl _) _).alloc (by simp) _).drew
   have T8 := hide' (show (BoA V mb sb B g cap nb qs (fun _ _ => 0) ∧ Below w2.heap.size w2 V) ∧ w2.heap.size ≤ nb from
    ⟨⟨⟨by rw [← hV, HN.out]; exact (heap_alloc_old (w2.alloc _) _ (by simp; omega)).trans (heap_atX _ _ _ hq.symm), KF.out.below BV, by unfold KnB; rw [← hV, HN.out]; exact heap_atX _ _ _ (by simp; omega), fun i _ => Or.inl fun j _ => rfl, TZ.out.below BV, by have := TL.out; have := Z2.out; have := HFB.out; omega⟩, BV⟩, by omega⟩)
   exact CUT _ _ _ T8
 case rs =>
  intro mb nb V T9
  have T8 := hide' T9.out.1
  have NB2 := hide' T9.out.2
  clear T9
  have FV1 := hide' ((T8.out.2.block _ (lt_of_block F2.out)).trans F2.out)
  have RV1 := hide' ((T8.out.2.block _ (lt_of_block R2.out)).trans R2.out)
  have f1 := cell_of_row V fb 1 _ _ _ FV1.out
  have f2 := cell_of_row V fb 2 _ _ _ FV1.out
  simp at f1 f2
  clear f0 s0
  go_wp2_with fail
  refine (of_any n mb sb B g cap nb qs (fun _ _ => 0) t L V T8.out.1 HW.out.1 HW.out.2.1 HW.out.2.2.1 HW.out.2.2.2 HL.out).mono ?_
  rintro e w4 ⟨l, u, r, d, kn', rfl, bx, ba, kp⟩
  have BX := hide' bx
  have zz := And.intro Z2.out (And.intro NB2.out HFB.out)
  have R4 := hide' ((kp.keep (fb + 1) (lt_of_block RV1.out) (by omega)).trans RV1.out)
  have B4 := hide' (show Below w.heap.size w w4 from B2.out.trans ((T8.out.2.mono B2.out.size).trans ⟨kp.os, kp.tape, kp.output, kp.size, fun k hk => kp.keep k (by have := T8.out.2.size; omega) (by omega)⟩))
  have r0 := frozen_of_row w4 _ 0 _ _ R4.out
  have r1 := frozen_of_row w4 _ 1 _ _ R4.out
  have r2 := frozen_of_row w4 _ 2 _ _ R4.out
  have r3 := frozen_of_row w4 _ 3 _ _ R4.out
  have c0 := cell_of_row w4 _ 0 _ _ _ R4.out
  have c1 := cell_of_row w4 _ 1 _ _ _ R4.out
  have c2 := cell_of_row w4 _ 2 _ _ _ R4.out
  have c3 := cell_of_row w4 _ 3 _ _ _ R4.out
  simp at c0 c1 c2 c3
  clear bx ba kp zz f1 f2 mk
  go_wp2
  obtain ⟨Z, hZ⟩ : ∃ Z, (((w4.setCell ⟨fb + 1, 0, none⟩ (.int .i64 l)).setCell ⟨fb + 1, 1, none⟩ (.int .i64 u)).setCell ⟨fb + 1, 2, none⟩ (.int .i64 r)).setCell ⟨fb + 1, 3, none⟩ (.int .i64 d) = Z := ⟨_, rfl⟩
  have GZ : Z.heap[fb + 1]? = some (.cells #[.int .i64 l, .int .i64 u, .int .i64 r, .int .i64 d] 99 (0, 0)) := by rw [← hZ]; exact span_res R4.out _ _ _ _
  have BZ : Below w.heap.size w Z := by
   have := HFB.out
   rw [← hZ]
   exact (((B4.out.setCell (by show _ ≤ fb + 1; omega) _).setCell (by show _ ≤ fb + 1; omega) _).setCell (by show _ ≤ fb + 1; omega) _).setCell (by show _ ≤ fb + 1; omega) _
  rw [hZ]
  clear hZ c0 c1 c2 c3 r0 r1 r2 r3
  have i0 := cell_of_row Z _ 0 _ _ _ GZ
  have i1 := cell_of_row Z _ 1 _ _ _ GZ
  have i2 := cell_of_row Z _ 2 _ _ _ GZ
  have i3 := cell_of_row Z _ 3 _ _ _ GZ
  simp at i0 i1 i2 i3
  refine bodyPost_ret (v := .agg #[.int .i64 l, .int .i64 u, .int .i64 r, .int .i64 d]) (by simp [results, Tryz.results35, go_sem, i0, i1, i2, i3]) rfl ?_
  exact ⟨l, u, r, d, rfl, BX.out, BZ⟩
def SbP (F : Int → Int → Int) (w : World) (e : Ending) (w' : World) : Prop := ∃ (x y W H : Int), e = .returned (.tuple #[.int .i64 x, .int .i64 y, .int .i64 W, .int .i64 H]) ∧ ((∃ u v, F u v ≠ 0) → BxF F x y (x + W) (y + H)) ∧ ((∀ u v, F u v = 0) → x = 0 ∧ y = 0 ∧ W = 0 ∧ H = 0) ∧ Below w.heap.size w w'
set_option maxRecDepth 100000 in
set_option maxHeartbeats 6400000 in
theorem sbox_any (spb B : Nat) (b s o : Int) (tv : Value) (M : Int) (F : Int → Int → Int) (K : Nat) (w : World) (hS : SpB w spb B b s o tv M F K) (hK : K ≤ 2000000) (hM : M ≤ 144115188075855872) (hz : TzTab w) :
  Calls Tryz.prog 13 #[.pointer (some ⟨spb, 0, none⟩)] w (SbP F w) := by
 obtain ⟨hB, sb, t, L, fr, fd, n, g, cap, qs, kp, hs, hf, tg, hl, hkp⟩ := hS
 have hs' := hs
 unfold spD at hs'
 have c11 := cell_of_row w spb 11 _ _ _ hs'
 have c12 := cell_of_row w spb 12 _ _ _ hs'
 have c13 := cell_of_row w spb 13 _ _ _ hs'
 have c14 := cell_of_row w spb 14 _ _ _ hs'
 have c15 := cell_of_row w spb 15 _ _ _ hs'
 simp at c11 c12 c13 c14 c15
 by_cases t0 : t = 0
 ·subst t0
  have FIN := hide' (show SbP F w (.returned (.tuple #[.int .i64 0, .int .i64 0, .int .i64 0, .int .i64 0])) w from ⟨0, 0, 0, 0, rfl, fun ⟨u, v, h⟩ => absurd (by rw [← hf.val, val_nil hf.stk.st]) h, fun _ => ⟨rfl, rfl, rfl, rfl⟩, Below.refl _ _⟩)
  clear hs hs' hf tg hl hkp hz
  go_enter Tryz.func13, Tryz.ntmps13
  go_wp2
  refine bodyPost_ret (v := .tuple #[.int .i64 0, .int .i64 0, .int .i64 0, .int .i64 0]) (by simp [results, Tryz.results13, go_sem]) rfl ?_
  exact FIN.out
 ·have z0 : ((t : Int) == 0) = false := by simp; omega
  have HS := hide' hs
  have BC := hide' (box_any sb B g cap qs n t L fr fd w hf.stk (by omega) hf.wf t0 hf.lev hf.hi hz)
  have VF := hide' hf.val
  have GE := hide' (And.intro hf.r1 (And.intro hf.r2 (And.intro hf.d1 (And.intro hf.d2 hM))))
  clear hs hs' hf tg hl hkp hz t0
  go_enter Tryz.func13, Tryz.ntmps13
  go_wp2_with fail
  refine BC.out.mono ?_
  rintro e w4 ⟨l, u, r, d, rfl, bx, b4⟩
  have BF := hide' (bx.shift VF.out)
  have BI := hide' (box_in bx)
  have S4 := hide' ((b4.block _ (lt_of_block HS.out)).trans HS.out)
  have B4 := hide' b4
  obtain ⟨zb, hzb⟩ : ∃ z, w4.heap.size = z := ⟨_, rfl⟩
  obtain ⟨w5, hw5⟩ : ∃ w5, w4.alloc (.cells #[.int .i64 l, .int .i64 u, .int .i64 r, .int .i64 d] 99) = w5 := ⟨_, rfl⟩
  have B5 := hide' (show Below w4.heap.size w4 w5 by rw [← hw5]; exact (Below.refl _ _).alloc (Nat.le_refl _) _)
  have Z5 := hide' (show w5.heap[zb]? = some (.cells #[.int .i64 l, .int .i64 u, .int .i64 r, .int .i64 d] 99 (0, 0)) by rw [← hw5]; exact heap_atX _ _ _ hzb.symm)
  have S5 := hide' ((B5.out.block _ (lt_of_block S4.out)).trans S4.out)
  have HW5 := hide' (And.intro hw5 hzb)
  clear bx b4 hw5 hzb c11 c12 c13 c14 c15
  go_upto_region 4 with fail
  rw [HW5.out.1, HW5.out.2]
  have k0 := S5.out
  unfold spD at k0
  have c14 := cell_of_row w5 spb 14 _ _ _ k0
  have c15 := cell_of_row w5 spb 15 _ _ _ k0
  have e0 := cell_of_row w5 zb 0 _ _ _ Z5.out
  have e1 := cell_of_row w5 zb 1 _ _ _ Z5.out
  have e2 := cell_of_row w5 zb 2 _ _ _ Z5.out
  have e3 := cell_of_row w5 zb 3 _ _ _ Z5.out
  simp at c14 c15 e0 e1 e2 e3
  clear k0
  obtain ⟨x, hx⟩ : ∃ x, fr + l = x := ⟨_, rfl⟩
  obtain ⟨y, hy⟩ : ∃ x, fd + u = x := ⟨_, rfl⟩
  obtain ⟨W, hW⟩ : ∃ x, r - l = x := ⟨_, rfl⟩
  obtain ⟨H, hH⟩ : ∃ x, d - u = x := ⟨_, rfl⟩
  have ge := GE.out
  have bi := BI.out
  have v1 : IntKind.i64.wrap x = x := by simp [IntKind.wrap, IntKind.bits, IntKind.signed]; omega
  have v2 : IntKind.i64.wrap y = y := by simp [IntKind.wrap, IntKind.bits, IntKind.signed]; omega
  have v3 : IntKind.i64.wrap W = W := by simp [IntKind.wrap, IntKind.bits, IntKind.signed]; omega
  have v4 : IntKind.i64.wrap H = H := by simp [IntKind.wrap, IntKind.bits, IntKind.signed]; omega
  have FIN := hide' (show ∀ V, Below w4.heap.size w4 V → SbP F w (.returned (.tuple #[.int .i64 x, .int .i64 y, .int .i64 W, .int .i64 H])) V from fun V hV => ⟨x, y, W, H, rfl, fun _ => by
   have q := BF.out
   rw [← hx, ← hy, show fr + l + W = fr + r by omega, show fd + u + H = fd + d by omega]
   exact q, fun q => by
   obtain ⟨y1, a1⟩ := BF.out.hl
   exact absurd (q _ _) a1, B4.out.trans (hV.mono B4.out.size)⟩)
  clear ge bi
  go_quiet (fail)
  clear v1 v2 v3 v4 hx hy hW hH
  go_wp2
  refine bodyPost_ret (v := .tuple #[.int .i64 x, .int .i64 y, .int .i64 W, .int .i64 H]) (by simp [results, Tryz.results13, go_sem]) rfl ?_
  exact FIN.out _ (below_drewN B5.out _)
end Go.Proofs.YtemhcpldflcfbaaGreatDoor
