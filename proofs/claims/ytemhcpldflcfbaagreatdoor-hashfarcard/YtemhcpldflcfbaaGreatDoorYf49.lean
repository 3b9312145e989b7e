/-
  What the last text of this claim leans on, part 49: LawHf.
-/
import Derived.Test.YtemhcpldflcfbaaGreatDoorYf36
import Derived.Test.YtemhcpldflcfbaaGreatDoorYf37
import Derived.Test.YtemhcpldflcfbaaGreatDoorYf39
import Derived.Test.YtemhcpldflcfbaaGreatDoorYf46
import Derived.Test.YtemhcpldflcfbaaGreatDoorYf47
import Derived.Test.YtemhcpldflcfbaaGreatDoorYf48
namespace Go.Proofs.YtemhcpldflcfbaaGreatDoor
open Go.RowKit
set_option linter.unusedVariables false
theorem errOf_far {f : Nat} (h : f ≠ 0) : errOf f = .iface 56 (.int .i64 (f : Int)) := by unfold errOf; rw [if_neg h]
def LhfS (o : Out) (ta : Option Addr) (tn tc : Nat) (W H : Int) (xs : List Int) (a : Option Addr) (n c : Nat) (w : World) (V : World) : Prop :=
 ArgR V o ta tn tc ∧ ArgP V xs a n c ∧ TzTab V ∧ V.heap[w.heap.size]? = some (.cells #[.int .i64 o.kind, .int .i64 o.born, .int .i64 o.stay, .int .i64 o.states, .int .i64 o.radius, .slice ta tn tc, .string o.turns] 24 (0, 0)) ∧ V.heap[w.heap.size + 1]? = some (.cells #[.int .i64 W, .int .i64 H, .slice a n c] 26 (0, 0)) ∧ Below w.heap.size w V
theorem LhfS.start {o : Out} {ta : Option Addr} {tn tc : Nat} {W H : Int} {xs : List Int} {a : Option Addr} {n c : Nat} {w : World} (hR : ArgR w o ta tn tc) (hP : ArgP w xs a n c) (hz : TzTab w) :
  LhfS o ta tn tc W H xs a n c w ((w.alloc (.cells #[.int .i64 o.kind, .int .i64 o.born, .int .i64 o.stay, .int .i64 o.states, .int .i64 o.radius, .slice ta tn tc, .string o.turns] 24)).alloc (.cells #[.int .i64 W, .int .i64 H, .slice a n c] 26)) := by
 have b : Below w.heap.size w ((w.alloc (.cells #[.int .i64 o.kind, .int .i64 o.born, .int .i64 o.stay, .int .i64 o.states, .int .i64 o.radius, .slice ta tn tc, .string o.turns] 24)).alloc (.cells #[.int .i64 W, .int .i64 H, .slice a n c] 26)) := ((Below.refl _ _).alloc (Nat.le_refl _) _).alloc (by simp) _
 exact ⟨hR.below b, hP.below b, hz.below b, (heap_alloc_old _ _ (by simp)).trans (heap_alloc_new _ _), heap_atX _ _ _ (by simp), b⟩
theorem LhfS.next {o : Out} {ta : Option Addr} {tn tc : Nat} {W H : Int} {xs : List Int} {a : Option Addr} {n c : Nat} {w V V' : World} (h : LhfS o ta tn tc W H xs a n c w V) (b : Below V.heap.size V V') : LhfS o ta tn tc W H xs a n c w V' := by
 obtain ⟨h1, h2, h4, h5, h6, h7⟩ := h
 exact ⟨h1.below b, h2.below b, h4.below b, (b.block _ (lt_of_block h5)).trans h5, (b.block _ (lt_of_block h6)).trans h6, h7.trans (b.mono h7.size)⟩
set_option maxRecDepth 100000 in
set_option maxHeartbeats 6400000 in
theorem law_hf_bad (o : Out) (ta : Option Addr) (tn tc : Nat) (W H : Int) (xs : List Int) (a : Option Addr) (n c : Nat) (k : Int) (x : AgR) (w : World) (hR : ArgR w o ta tn tc) (hP : ArgP w xs a n c) (hz : TzTab w) (hx : x.f ≠ 0 ∨ k < 0 ∨ 40 < k)
  (ag : ∀ V, LhfS o ta tn tc W H xs a n c w V → Calls Tryz.prog 17 #[.agg #[.int .i64 o.kind, .int .i64 o.born, .int .i64 o.stay, .int .i64 o.states, .int .i64 o.radius, .slice ta tn tc, .string o.turns], .agg #[.int .i64 W, .int .i64 H, .slice a n c], .int .i64 64] V (AgainPost x V)) :
  Calls Tryz.prog 4 #[.agg #[.int .i64 o.kind, .int .i64 o.born, .int .i64 o.stay, .int .i64 o.states, .int .i64 o.radius, .slice ta tn tc, .string o.turns], .agg #[.int .i64 W, .int .i64 H, .slice a n c], .int .i64 k] w fun e w' => e = .returned (.bool true) ∧ Below w.heap.size w w' := by
 have L0 := LhfS.start (W := W) (H := H) hR hP hz
 obtain ⟨w1, hw1⟩ : ∃ w1, (w.alloc (.cells #[.int .i64 o.kind, .int .i64 o.born, .int .i64 o.stay, .int .i64 o.states, .int .i64 o.radius, .slice ta tn tc, .string o.turns] 24)).alloc (.cells #[.int .i64 W, .int .i64 H, .slice a n c] 26) = w1 := ⟨_, rfl⟩
 rw [hw1] at L0
 have L1 := hide' L0
 have HW1 := hide' hw1
 have AC := hide' ag
 have HX := hide' hx
 clear hw1 hR hP hz L0 ag hx
 go_enter Tryz.func4, Tryz.ntmps4
 go_upto_region 1 with fail
 rw [HW1.out]
 go_wp2_with fail
 refine (lives_any w1 L1.out.2.2.1).mono ?_
 rintro e w2 ⟨rfl, b⟩
 have L2 := hide' (L1.out.next b)
 clear b
 have R0 := L2.out.2.2.2.1
 have x0 := cell_of_row w2 _ 0 _ _ _ R0
 have x1 := cell_of_row w2 _ 1 _ _ _ R0
 have x2 := cell_of_row w2 _ 2 _ _ _ R0
 have x3 := cell_of_row w2 _ 3 _ _ _ R0
 have x4 := cell_of_row w2 _ 4 _ _ _ R0
 have x5 := cell_of_row w2 _ 5 _ _ _ R0
 have x6 := cell_of_row w2 _ 6 _ _ _ R0
 simp at x0 x1 x2 x3 x4 x5 x6
 clear R0
 have R0 := L2.out.2.2.2.2.1
 have p0 := cell_of_row w2 _ 0 _ _ _ R0
 have p1 := cell_of_row w2 _ 1 _ _ _ R0
 have p2 := cell_of_row w2 _ 2 _ _ _ R0
 simp at p0 p1 p2
 clear R0
 go_wp2_with fail
 refine (AC.out w2 L2.out).mono ?_
 unfold AgainPost agV
 by_cases xf : x.f = 0
 ·rw [xf, show errOf 0 = .nilIface from rfl]
  rintro e w3 ⟨rfl, b⟩
  have FIN := hide' (show Below w.heap.size w (w3.alloc (.cells #[.int .i64 (x.n : Int), .int .i64 x.r, .int .i64 x.d] 49)) from (L2.out.next b).2.2.2.2.2.alloc (L2.out.next b).2.2.2.2.2.size _)
  clear b x0 x1 x2 x3 x4 x5 x6 p0 p1 p2
  have kk : k < 0 ∨ 40 < k := by rcases HX.out with q | q; exact absurd xf q; exact q
  rcases kk with k1 | k1
  ·go_wp2
   go_ret
   exact ⟨rfl, FIN.out⟩
  ·have k2 : ¬ k < 0 := by omega
   go_wp2
   go_ret
   exact ⟨rfl, FIN.out⟩
 ·rw [errOf_far xf]
  rintro e w3 ⟨rfl, b⟩
  have FIN := hide' (show Below w.heap.size w (w3.alloc (.cells #[.int .i64 (x.n : Int), .int .i64 x.r, .int .i64 x.d] 49)) from (L2.out.next b).2.2.2.2.2.alloc (L2.out.next b).2.2.2.2.2.size _)
  clear b x0 x1 x2 x3 x4 x5 x6 p0 p1 p2
  go_wp2
  go_ret
  exact ⟨rfl, FIN.out⟩
set_option maxRecDepth 100000 in
set_option maxHeartbeats 12800000 in
theorem law_hf_main (o : Out) (ta : Option Addr) (tn tc : Nat) (W H : Nat) (xs : List Int) (a : Option Addr) (n c : Nat) (kn born stay : Nat) (w : World) (hR : ArgR w o ta tn tc) (hP : ArgP w xs a n c) (hz : TzTab w) (hy : YesNew o) (hsh : shapeF (W : Int) (H : Int) xs = 0) (hW : W ≤ 100) (hH : H ≤ 100) (hm : xs.length = W * H) (hb : ∀ i, 0 ≤ xs.getD i 0 ∧ xs.getD i 0 ≤ 1) (hob : o.born = (born : Int)) (hos : o.stay = (stay : Int)) (b5 : born ≤ 511) (s5 : stay ≤ 511) (bt : born.testBit 0 = false) (hb0 : born % 2 = 0) (hk : kn ≤ 40) (hf : (agA born stay (firstG ⟨W, H, xs⟩) 64).f = 0) (h0 : ∀ g, grE o (W : Int) (H : Int) xs g → g = 0) :
  Calls Tryz.prog 4 #[.agg #[.int .i64 o.kind, .int .i64 o.born, .int .i64 o.stay, .int .i64 o.states, .int .i64 o.radius, .slice ta tn tc, .string o.turns], .agg #[.int .i64 (W : Int), .int .i64 (H : Int), .slice a n c], .int .i64 (kn : Int)] w fun e w' => e = .returned (.bool true) ∧ Below w.heap.size w w' := by
 have L0 := LhfS.start (W := (W : Int)) (H := (H : Int)) hR hP hz
 obtain ⟨w1, hw1⟩ : ∃ w1, (w.alloc (.cells #[.int .i64 o.kind, .int .i64 o.born, .int .i64 o.stay, .int .i64 o.states, .int .i64 o.radius, .slice ta tn tc, .string o.turns] 24)).alloc (.cells #[.int .i64 (W : Int), .int .i64 (H : Int), .slice a n c] 26) = w1 := ⟨_, rfl⟩
 rw [hw1] at L0
 have L1 := hide' L0
 have HW1 := hide' hw1
 have HY := hide' hy
 have FB := hide' (show Bxd (firstG ⟨W, H, xs⟩) from box_bxd (q := ⟨W, H, xs⟩) hb 0 0)
 have FO := hide' (first_ok (p := ⟨W, H, xs⟩) hb hW hH)
 have PG := hide' (show plG (firstG ⟨W, H, xs⟩) = ptF W H xs 0 0 from box_pl (q := ⟨W, H, xs⟩) hb 0 0)
 have AC := hide' (fun V (hV : LhfS o ta tn tc (W : Int) (H : Int) xs a n c w V) => again_good o ta tn tc W H xs a n c born stay 64 V hV.1 hV.2.1 hV.2.2.1 h0 hob hos b5 s5 bt hm hb hW hH (by omega) (by omega))
 have GR := hide' (fun (m : Nat) (hm' : m ≤ 100000) V (hV : LhfS o ta tn tc (W : Int) (H : Int) xs a n c w V) => grow_good o ta tn tc W H xs a n c born stay m V hV.1 hV.2.1 hV.2.2.1 h0 hob hos b5 s5 bt hm hb hW hH hm')
 obtain ⟨s0, hs0⟩ : ∃ s0, firstG ⟨W, H, xs⟩ = s0 := ⟨_, rfl⟩
 rw [hs0] at FB FO PG AC GR hf
 have PER := hide' (per_of bt hb0 FB.out hf)
 have PF := hide' (prF_of bt hb0 FB.out FO.out.2.1 FO.out.2.2.1 hf)
 have SM := hide' (again_small (born := born) (stay := stay) FO.out.2.1 FO.out.2.2.1 hf)
 have BX := hide' (fun (x y X Y : Int) => far_box (n := 2 ^ kn) bt hb0 FB.out hf (x := x) (y := y) (W := X) (H := Y))
 have NR := hide' (fun (r : Nat) (hr : r ≤ 64) => far_near (stay := stay) bt hb0 FB.out FO.out.2.1 FO.out.2.2.1 FO.out.2.2.2 hr)
 obtain ⟨A, hA⟩ : ∃ A, agA born stay s0 64 = A := ⟨_, rfl⟩
 rw [hA] at PER PF SM BX AC hf
 obtain ⟨P, R, D, f⟩ := A
 obtain rfl : f = 0 := hf
 clear hA
 obtain ⟨r, hr⟩ : ∃ r, 2 ^ kn % P = r := ⟨_, rfl⟩
 obtain ⟨q, hq⟩ : ∃ q, 2 ^ kn / P = q := ⟨_, rfl⟩
 have P1 : 1 ≤ P := PER.out.pos.1
 have P64 : P ≤ 64 := PER.out.pos.2
 have rP : r < P := by rw [← hr]; exact Nat.mod_lt _ (by omega)
 have N40 : 2 ^ kn ≤ 1099511627776 := Nat.le_trans (Nat.pow_le_pow_right (by omega) hk) (by decide)
 have q40 : q ≤ 1099511627776 := by rw [← hq]; exact Nat.le_trans (Nat.div_le_self _ _) N40
 have MR := far_mul (r := R) q40 PER.out.right
 have MD := far_mul (r := D) q40 PER.out.down
 have NR1 := NR.out r (by omega)
 have GI := hide' (grow_it (born := born) (stay := stay) (s := s0) r (fun j hj => SM.out j (by show j ≤ P; omega)))
 dsimp only at BX
 rw [hr, hq, PG.out] at BX
 obtain ⟨u, hu⟩ : ∃ u, itG born stay r s0 = u := ⟨_, rfl⟩
 rw [hu] at BX NR1 GI
 have US : u.P.W ≤ 100 ∧ u.P.H ≤ 100 := by rw [← hu]; exact SM.out r (by show r ≤ P; omega)
 have GC := hide' (fun V (hV : LhfS o ta tn tc (W : Int) (H : Int) xs a n c w V) => (GR.out r (by omega) V hV).mono (fun e w' g => show ∃ y, e = .returned (.tuple #[.agg #[.int .i64 (u.P.W : Int), .int .i64 (u.P.H : Int), .slice (some ⟨y, 0, none⟩) u.P.xs.length u.P.xs.length], .int .i64 u.r, .int .i64 u.d, .nilIface]) ∧ Below V.heap.size V w' from by
  rcases g with ⟨g, -⟩ | ⟨u', y, g, g1, -, g2⟩
  ·rw [GI.out] at g; cases g
  ·rw [GI.out] at g
   injection g with g
   subst g
   exact ⟨y, g1, g2⟩))
 have JC := hide' (fun (V : World) (spb B : Nat) (hS : SpB V spb B (born : Int) (stay : Int) 0 (.pointer none) 1000000001000 (ptF W H xs 0 0) 3200) => show Calls Tryz.prog 11 #[.pointer (some ⟨spb, 0, none⟩), .int .i64 (kn : Int)] V (JuP spb B born stay (1000000001000 + 70368811286528) (stF born stay (2 ^ kn) (ptF W H xs 0 0)) 1600000 V) from by
  by_cases k12 : kn ≤ 12
  ·exact jump_any spb B born stay _ _ _ _ kn 0 W 0 H V hS hb0 b5 s5 (by omega) k12 (fun u v h => pt_out (by omega)) (by omega) (by omega) (by omega)
  ·exact jump_far P R D spb B born stay _ _ _ _ kn 0 W 0 H V hS hb0 b5 s5 (by omega) (by omega) (fun u v h => pt_out (by omega)) (by omega) (by omega) (by omega) (by rw [← PG.out]; exact PF.out))
 have HF := hide' (And.intro hsh (And.intro hW (And.intro hH (And.intro hm hb))))
 have HO := hide' (And.intro hob hos)
 have HK := hide' hk
 have HRQ := hide' (And.intro hr hq)
 have HN40 := hide' N40
 clear hw1 hR hP hz L0 hy hsh hW hH hm hb hob hos b5 s5 bt hb0 h0 hk hs0 hr hq hu GR GI SM NR PF FO FB N40
 go_enter Tryz.func4, Tryz.ntmps4
 go_upto_region 1 with fail
 rw [HW1.out]
 go_wp2_with fail
 refine (lives_any w1 L1.out.2.2.1).mono ?_
 rintro e w2 ⟨rfl, b⟩
 have L2 := hide' (L1.out.next b)
 clear b
 have R0 := L2.out.2.2.2.1
 have x0 := cell_of_row w2 _ 0 _ _ _ R0
 have x1 := cell_of_row w2 _ 1 _ _ _ R0
 have x2 := cell_of_row w2 _ 2 _ _ _ R0
 have x3 := cell_of_row w2 _ 3 _ _ _ R0
 have x4 := cell_of_row w2 _ 4 _ _ _ R0
 have x5 := cell_of_row w2 _ 5 _ _ _ R0
 have x6 := cell_of_row w2 _ 6 _ _ _ R0
 simp at x0 x1 x2 x3 x4 x5 x6
 clear R0
 have R0 := L2.out.2.2.2.2.1
 have p0 := cell_of_row w2 _ 0 _ _ _ R0
 have p1 := cell_of_row w2 _ 1 _ _ _ R0
 have p2 := cell_of_row w2 _ 2 _ _ _ R0
 simp at p0 p1 p2
 clear R0
 go_wp2_with fail
 refine (AC.out w2 L2.out).mono ?_
 unfold AgainPost agV
 rw [show errOf 0 = .nilIface from rfl]
 rintro e w3 ⟨rfl, b⟩
 obtain ⟨w4, hw4⟩ : ∃ w4, w3.alloc (.cells #[.int .i64 (P : Int), .int .i64 R, .int .i64 D] 49) = w4 := ⟨_, rfl⟩
 have HW4 := hide' hw4
 have L4 := hide' (show LhfS o ta tn tc (W : Int) (H : Int) xs a n c w w4 from by rw [← hw4]; exact (L2.out.next b).next ((Below.refl _ _).alloc (Nat.le_refl _) _))
 have G4 := hide' (show w4.heap[w3.heap.size]? = some (.cells #[.int .i64 (P : Int), .int .i64 R, .int .i64 D] 49 (0, 0)) from by rw [← hw4]; exact heap_alloc_new _ _)
 clear b x0 x1 x2 x3 x4 x5 x6 p0 p1 p2 hw4 AC
 have k1 : ¬ (kn : Int) < 0 := by omega
 have k2 : ¬ 40 < (kn : Int) := by have := HK.out; omega
 go_upto_region 7 with fail
 rw [HW4.out]
 have R0 := L4.out.2.2.2.1
 have x0 := cell_of_row w4 _ 0 _ _ _ R0
 have x1 := cell_of_row w4 _ 1 _ _ _ R0
 have x2 := cell_of_row w4 _ 2 _ _ _ R0
 have x3 := cell_of_row w4 _ 3 _ _ _ R0
 have x4 := cell_of_row w4 _ 4 _ _ _ R0
 have x5 := cell_of_row w4 _ 5 _ _ _ R0
 have x6 := cell_of_row w4 _ 6 _ _ _ R0
 simp at x0 x1 x2 x3 x4 x5 x6
 clear R0
 go_wp2_with fail
 refine (new_yes o ta tn tc w4 L4.out.1 HY.out).mono ?_
 rintro e w5 ⟨spb, b1, s1, hbs, rfl, sp, b⟩
 obtain rfl : b1 = born := by have := HO.out; omega
 obtain rfl : s1 = stay := by have := HO.out; omega
 have L5 := hide' (L4.out.next b)
 have S5 := hide' sp
 have B5 := hide' b
 clear x0 x1 x2 x3 x4 x5 x6 b sp hbs k1 k2
 have R0 := L5.out.2.2.2.2.1
 have p0 := cell_of_row w5 _ 0 _ _ _ R0
 have p1 := cell_of_row w5 _ 1 _ _ _ R0
 have p2 := cell_of_row w5 _ 2 _ _ _ R0
 simp at p0 p1 p2
 clear R0
 have PN := hide' (put_new spb w4.heap.size _ _ _ _ _ _ w5 S5.out W H xs a n c HF.out.1 HF.out.2.1 HF.out.2.2.1 HF.out.2.2.2.1 HF.out.2.2.2.2 (fun V hV => (L4.out.next (B5.out.trans hV)).2.1) 0 0 (by omega) (by omega) (by omega) (by omega))
 go_wp2_with fail
 refine PN.out.mono ?_
 rintro e w6 ⟨rfl, sp, b⟩
 have S6 := hide' sp
 have B6 := hide' (B5.out.trans b)
 clear p0 p1 p2 b sp PN
 go_wp2_with fail
 refine (JC.out w6 spb w4.heap.size S6.out).mono ?_
 rintro e w7 ⟨rfl, ⟨o7, tv7, sp⟩, b⟩
 have S7 := hide' sp
 have B7 := hide' (B6.out.trans b)
 have L7 := hide' (L4.out.next B7.out)
 have G7 := hide' ((B7.out.block _ (lt_of_block G4.out)).trans G4.out)
 clear b sp JC S6 S5
 go_wp2
 go_loopw [13, 14] (fun nv iv wr => ∃ i p : Nat, nv = .int .i64 (p : Int) ∧ iv = .int .i64 (i : Int) ∧ i ≤ kn ∧ p ≤ 1099511627776 ∧ Hid (p = 2 ^ i) ∧ wr = w7) (fun _ iv _ => kn - (intOf iv).toNat)
 case atStart => exact ⟨0, 1, rfl, rfl, by omega, by omega, hide' rfl, rfl⟩
 case round =>
  obtain ⟨i, p, rfl, rfl, hi, hp, PP, rfl⟩ := hrel
  by_cases d : (i : Int) < (kn : Int)
  ·have p2 : p ≤ 549755813888 := by
    rw [PP.out]
    exact Nat.le_trans (Nat.pow_le_pow_right (by omega) (show i ≤ 39 by have := HK.out; omega)) (by decide)
   go_wp2
   exact ⟨⟨i + 1, p * 2, by go_num, by go_num, by omega, by omega, hide' (by rw [PP.out, Nat.pow_succ]), trivial⟩, by simp [intOf]; omega⟩
  ·obtain rfl : i = kn := by omega
   have pn := PP.out
   clear PP
   obtain rfl : p = 2 ^ i := pn
   obtain ⟨N, hN⟩ : ∃ N, 2 ^ i = N := ⟨_, rfl⟩
   rw [hN] at hp ⊢
   have ht := HRQ.out
   rw [hN] at ht
   have hb : ((P : Int) == 0) = false := by simp; omega
   have wm : IntKind.i64.wrap ((N : Int).tmod (P : Int)) = (r : Int) := by
    rw [show (N : Int).tmod (P : Int) = ((N % P : Nat) : Int) from rfl, ht.1]
    simp [IntKind.wrap, IntKind.signed, IntKind.bits]; omega
   have wq : IntKind.i64.wrap ((N : Int).tdiv (P : Int)) = (q : Int) := by
    rw [show (N : Int).tdiv (P : Int) = ((N / P : Nat) : Int) from rfl, ht.2]
    simp [IntKind.wrap, IntKind.signed, IntKind.bits]; omega
   have P0 : ¬ P = 0 := by omega
   have tm : (N : Int).tmod (P : Int) = (r : Int) := by rw [show (N : Int).tmod (P : Int) = ((N % P : Nat) : Int) from rfl, ht.1]
   have wq2 : wrap64 ((N : Int) / (P : Int)) = (q : Int) := by
    rw [show (N : Int) / (P : Int) = ((N / P : Nat) : Int) from rfl, ht.2]
    unfold wrap64; omega
   have HNN := hide' hN
   clear ht hN
   have g0 := cell_of_row wr _ 0 _ _ _ G7.out
   simp at g0
   have R0 := L7.out.2.2.2.1
   have x0 := cell_of_row wr _ 0 _ _ _ R0
   have x1 := cell_of_row wr _ 1 _ _ _ R0
   have x2 := cell_of_row wr _ 2 _ _ _ R0
   have x3 := cell_of_row wr _ 3 _ _ _ R0
   have x4 := cell_of_row wr _ 4 _ _ _ R0
   have x5 := cell_of_row wr _ 5 _ _ _ R0
   have x6 := cell_of_row wr _ 6 _ _ _ R0
   simp at x0 x1 x2 x3 x4 x5 x6
   clear R0
   have R0 := L7.out.2.2.2.2.1
   have p0 := cell_of_row wr _ 0 _ _ _ R0
   have p1 := cell_of_row wr _ 1 _ _ _ R0
   have p2 := cell_of_row wr _ 2 _ _ _ R0
   simp at p0 p1 p2
   clear R0
   have GV := hide' (fun (V : World) (b : Below wr.drew.heap.size wr.drew V) => L7.out.next (((Below.refl wr.heap.size wr).drew).trans b))
   have DR := hide' (show Below wr.heap.size wr wr.drew from (Below.refl wr.heap.size wr).drew)
   clear x0 x1 x2 x3 x4 x5 x6 p0 p1 p2 g0
   go_upto_region 17 with fail
   obtain ⟨pvl, hpvl⟩ : ∃ l : List (Option Value), l = [some (.agg #[.int .i64 o.kind, .int .i64 o.born, .int .i64 o.stay, .int .i64 o.states, .int .i64 o.radius, .slice ta tn tc, .string o.turns]), some (.agg #[.int .i64 (W : Int), .int .i64 (H : Int), .slice a n c]), some (.int .i64 (N : Int)), some (.pointer (some ⟨w3.heap.size, 0, none⟩)), some (.int .i64 (P : Int)), some (.int .i64 (r : Int)), none, none, none, some (.int .i64 u.r), some (.int .i64 u.d), some (.nilIface), none, none, some (.int .i64 u.r), some (.int .i64 u.d), some (.nilIface)] := ⟨_, rfl⟩
   refine regionO (by kernel_rfl) _ 17 dlG depsG (GwR pvl 26 #[.int .i64 0, .int .i64 0, .slice none 0 0] (fun y => #[.int .i64 (u.P.W : Int), .int .i64 (u.P.H : Int), .slice (some ⟨y, 0, none⟩) u.P.xs.length u.P.xs.length]) (fun y => .tuple #[.agg #[.int .i64 (u.P.W : Int), .int .i64 (u.P.H : Int), .slice (some ⟨y, 0, none⟩) u.P.xs.length u.P.xs.length], .int .i64 u.r, .int .i64 u.d, .nilIface]) wr.drew) rfl rfl dlG_nd (fun t ht => Nat.lt_of_lt_of_le (dlG_lt t ht) (by simp)) rfl rfl (by kernel_rfl) (by kernel_rfl) ?hcong ?h0 ?hstep ?hQ
   case hcong => exact fun L L' vals w' e h => h.cong (by rw [hpvl]; rfl) e
   case h0 => exact GwR.start _ _ _ _ _ _ _
   case hstep =>
    intro L vals V a' i' o' K hi' ho hR cl hLi need hk hv hK
    have t3 : a'.tmps[3]? = some (.pointer (some ⟨w.heap.size, 0, none⟩)) := (hk 3 (by decide)).trans rfl
    have t4 : a'.tmps[4]? = some (.pointer (some ⟨w.heap.size + 1, 0, none⟩)) := (hk 4 (by decide)).trans rfl
    have t8 : a'.tmps[8]? = some (.pointer (some ⟨w3.heap.size, 0, none⟩)) := (hk 8 (by decide)).trans rfl
    have t13 : a'.tmps[13]? = some (.int .i64 (N : Int)) := (hk 13 (by decide)).trans rfl
    have LV := hide' (GV.out V hR.bl)
    have GV7 := hide' (((DR.out.trans hR.bl).block _ (lt_of_block G7.out)).trans G7.out)
    have this : i' = 0 ∨ i' = 1 ∨ i' = 2 ∨ i' = 3 ∨ i' = 4 ∨ i' = 5 ∨ i' = 6 ∨ i' = 7 ∨ i' = 8 ∨ i' = 9 ∨ i' = 10 ∨ i' = 11 ∨ i' = 12 ∨ i' = 13 ∨ i' = 14 ∨ i' = 15 ∨ i' = 16 := by omega
    rcases this with rfl | rfl | rfl | rfl | rfl | rfl | rfl | rfl | rfl | rfl | rfl | rfl | rfl | rfl | rfl | rfl | rfl
    ·obtain rfl := Option.some.inj ho
     have x0 := cell_of_row V _ 0 _ _ _ LV.out.2.2.2.1
     have x1 := cell_of_row V _ 1 _ _ _ LV.out.2.2.2.1
     have x2 := cell_of_row V _ 2 _ _ _ LV.out.2.2.2.1
     have x3 := cell_of_row V _ 3 _ _ _ LV.out.2.2.2.1
     have x4 := cell_of_row V _ 4 _ _ _ LV.out.2.2.2.1
     have x5 := cell_of_row V _ 5 _ _ _ LV.out.2.2.2.1
     have x6 := cell_of_row V _ 6 _ _ _ LV.out.2.2.2.1
     simp at x0 x1 x2 x3 x4 x5 x6
     unfold Oper.wp
     simp [execOp, Act.eval, go_sem, t3, x0, x1, x2, x3, x4, x5, x6]
     exact hK _ _ (hR.step (Below.refl _ _) 0 _ (by decide) (fun u hu => by rw [hpvl] at hu; simpa using hu) (fun e => absurd e (by decide)) (fun e => absurd e (by decide)) (fun e => absurd e (by decide)) (fun e => absurd e (by decide)))
    ·obtain rfl := Option.some.inj ho
     have p0 := cell_of_row V _ 0 _ _ _ LV.out.2.2.2.2.1
     have p1 := cell_of_row V _ 1 _ _ _ LV.out.2.2.2.2.1
     have p2 := cell_of_row V _ 2 _ _ _ LV.out.2.2.2.2.1
     simp at p0 p1 p2
     unfold Oper.wp
     simp [execOp, Act.eval, go_sem, t4, p0, p1, p2]
     exact hK _ _ (hR.step (Below.refl _ _) 1 _ (by decide) (fun u hu => by rw [hpvl] at hu; simpa using hu) (fun e => absurd e (by decide)) (fun e => absurd e (by decide)) (fun e => absurd e (by decide)) (fun e => absurd e (by decide)))
    ·obtain rfl := Option.some.inj ho
     unfold Oper.wp
     simp [execOp, Act.eval, go_sem, t13]
     exact hK _ _ (hR.step (Below.refl _ _) 2 _ (by decide) (fun u hu => by rw [hpvl] at hu; simpa using hu) (fun e => absurd e (by decide)) (fun e => absurd e (by decide)) (fun e => absurd e (by decide)) (fun e => absurd e (by decide)))
    ·obtain rfl := Option.some.inj ho
     unfold Oper.wp
     simp [execOp, Act.eval, go_sem, t8]
     exact hK _ _ (hR.step (Below.refl _ _) 3 _ (by decide) (fun u hu => by rw [hpvl] at hu; simpa using hu) (fun e => absurd e (by decide)) (fun e => absurd e (by decide)) (fun e => absurd e (by decide)) (fun e => absurd e (by decide)))
    ·obtain rfl := Option.some.inj ho
     have d3 : a'.tmps[71]? = some (.pointer (some ⟨w3.heap.size, 0, none⟩)) := (hv 3 71 (need 3 (by simp [depsG])) rfl).trans (by rw [hR.pure 3 (.pointer (some ⟨w3.heap.size, 0, none⟩)) (by rw [hpvl]; rfl) (need 3 (by simp [depsG]))])
     have g0 := cell_of_row V _ 0 _ _ _ GV7.out
     simp at g0
     unfold Oper.wp
     simp [execOp, Act.eval, go_sem, d3, g0]
     exact hK _ _ (hR.step (Below.refl _ _) 4 _ (by decide) (fun u hu => by rw [hpvl] at hu; simpa using hu) (fun e => absurd e (by decide)) (fun e => absurd e (by decide)) (fun e => absurd e (by decide)) (fun e => absurd e (by decide)))
    ·obtain rfl := Option.some.inj ho
     have d2 : a'.tmps[70]? = some (.int .i64 (N : Int)) := (hv 2 70 (need 2 (by simp [depsG])) rfl).trans (by rw [hR.pure 2 (.int .i64 (N : Int)) (by rw [hpvl]; rfl) (need 2 (by simp [depsG]))])
     have d4 : a'.tmps[72]? = some (.int .i64 (P : Int)) := (hv 4 72 (need 4 (by simp [depsG])) rfl).trans (by rw [hR.pure 4 (.int .i64 (P : Int)) (by rw [hpvl]; rfl) (need 4 (by simp [depsG]))])
     unfold Oper.wp
     simp [execOp, Act.eval, go_sem, d2, d4, P0, tm]
     exact hK _ _ (hR.step (Below.refl _ _) 5 _ (by decide) (fun u hu => by rw [hpvl] at hu; simpa using hu) (fun e => absurd e (by decide)) (fun e => absurd e (by decide)) (fun e => absurd e (by decide)) (fun e => absurd e (by decide)))
    ·have d0 : a'.tmps[68]? = some (.agg #[.int .i64 o.kind, .int .i64 o.born, .int .i64 o.stay, .int .i64 o.states, .int .i64 o.radius, .slice ta tn tc, .string o.turns]) := (hv 0 68 (need 0 (by simp [depsG])) rfl).trans (by rw [hR.pure 0 (.agg #[.int .i64 o.kind, .int .i64 o.born, .int .i64 o.stay, .int .i64 o.states, .int .i64 o.radius, .slice ta tn tc, .string o.turns]) (by rw [hpvl]; rfl) (need 0 (by simp [depsG]))])
     have d1 : a'.tmps[69]? = some (.agg #[.int .i64 (W : Int), .int .i64 (H : Int), .slice a n c]) := (hv 1 69 (need 1 (by simp [depsG])) rfl).trans (by rw [hR.pure 1 (.agg #[.int .i64 (W : Int), .int .i64 (H : Int), .slice a n c]) (by rw [hpvl]; rfl) (need 1 (by simp [depsG]))])
     have d5 : a'.tmps[73]? = some (.int .i64 (r : Int)) := (hv 5 73 (need 5 (by simp [depsG])) rfl).trans (by rw [hR.pure 5 (.int .i64 (r : Int)) (by rw [hpvl]; rfl) (need 5 (by simp [depsG]))])
     have ex : (execOp a'.eval o').run Tryz.prog V = .ok (.enter 18 #[.agg #[.int .i64 o.kind, .int .i64 o.born, .int .i64 o.stay, .int .i64 o.states, .int .i64 o.radius, .slice ta tn tc, .string o.turns], .agg #[.int .i64 (W : Int), .int .i64 (H : Int), .slice a n c], .int .i64 (r : Int)]) V := by obtain rfl := Option.some.inj ho; simp [execOp, Act.eval, go_sem, d0, d1, d5]
     unfold Oper.wp
     rw [ex, Oper.upon_enter]
     refine (GC.out V LV.out).mono ?_
     rintro e V2 ⟨y, rfl, b2⟩
     exact hK _ _ (hR.step b2 6 _ (by decide) (fun u hu => by rw [hpvl] at hu; simp at hu) (fun _ => ⟨y, rfl⟩) (fun e => absurd e (by decide)) (fun e => absurd e (by decide)) (fun e => absurd e (by decide)))
    ·obtain ⟨y, e6⟩ := hR.v6 (need 6 (by simp [depsG]))
     have d6 : a'.tmps[74]? = some (.tuple #[.agg #[.int .i64 (u.P.W : Int), .int .i64 (u.P.H : Int), .slice (some ⟨y, 0, none⟩) u.P.xs.length u.P.xs.length], .int .i64 u.r, .int .i64 u.d, .nilIface]) := (hv 6 74 (need 6 (by simp [depsG])) rfl).trans (by rw [e6])
     obtain rfl := Option.some.inj ho
     unfold Oper.wp
     simp [execOp, Act.eval, go_sem, d6]
     exact hK _ _ (hR.step (Below.refl _ _) 7 _ (by decide) (fun u hu => by rw [hpvl] at hu; simp at hu) (fun e => absurd e (by decide)) (fun _ => ⟨y, rfl⟩) (fun e => absurd e (by decide)) (fun e => absurd e (by decide)))
    ·obtain ⟨y, e7⟩ := hR.v7 (need 7 (by simp [depsG]))
     have d7 : a'.tmps[67]? = some (.tuple #[.agg #[.int .i64 (u.P.W : Int), .int .i64 (u.P.H : Int), .slice (some ⟨y, 0, none⟩) u.P.xs.length u.P.xs.length], .int .i64 u.r, .int .i64 u.d, .nilIface]) := (hv 7 67 (need 7 (by simp [depsG])) rfl).trans (by rw [e7])
     obtain rfl := Option.some.inj ho
     unfold Oper.wp
     simp [execOp, Act.eval, go_sem, d7]
     exact hK _ _ (hR.step (Below.refl _ _) 8 _ (by decide) (fun u hu => by rw [hpvl] at hu; simp at hu) (fun e => absurd e (by decide)) (fun e => absurd e (by decide)) (fun _ => ⟨y, rfl⟩) (fun e => absurd e (by decide)))
    ·obtain ⟨y, e7⟩ := hR.v7 (need 7 (by simp [depsG]))
     have d7 : a'.tmps[67]? = some (.tuple #[.agg #[.int .i64 (u.P.W : Int), .int .i64 (u.P.H : Int), .slice (some ⟨y, 0, none⟩) u.P.xs.length u.P.xs.length], .int .i64 u.r, .int .i64 u.d, .nilIface]) := (hv 7 67 (need 7 (by simp [depsG])) rfl).trans (by rw [e7])
     obtain rfl := Option.some.inj ho
     unfold Oper.wp
     simp [execOp, Act.eval, go_sem, d7]
     exact hK _ _ (hR.step (Below.refl _ _) 9 _ (by decide) (fun u hu => by rw [hpvl] at hu; simpa using hu) (fun e => absurd e (by decide)) (fun e => absurd e (by decide)) (fun e => absurd e (by decide)) (fun e => absurd e (by decide)))
    ·obtain ⟨y, e7⟩ := hR.v7 (need 7 (by simp [depsG]))
     have d7 : a'.tmps[67]? = some (.tuple #[.agg #[.int .i64 (u.P.W : Int), .int .i64 (u.P.H : Int), .slice (some ⟨y, 0, none⟩) u.P.xs.length u.P.xs.length], .int .i64 u.r, .int .i64 u.d, .nilIface]) := (hv 7 67 (need 7 (by simp [depsG])) rfl).trans (by rw [e7])
     obtain rfl := Option.some.inj ho
     unfold Oper.wp
     simp [execOp, Act.eval, go_sem, d7]
     exact hK _ _ (hR.step (Below.refl _ _) 10 _ (by decide) (fun u hu => by rw [hpvl] at hu; simpa using hu) (fun e => absurd e (by decide)) (fun e => absurd e (by decide)) (fun e => absurd e (by decide)) (fun e => absurd e (by decide)))
    ·obtain ⟨y, e7⟩ := hR.v7 (need 7 (by simp [depsG]))
     have d7 : a'.tmps[67]? = some (.tuple #[.agg #[.int .i64 (u.P.W : Int), .int .i64 (u.P.H : Int), .slice (some ⟨y, 0, none⟩) u.P.xs.length u.P.xs.length], .int .i64 u.r, .int .i64 u.d, .nilIface]) := (hv 7 67 (need 7 (by simp [depsG])) rfl).trans (by rw [e7])
     obtain rfl := Option.some.inj ho
     unfold Oper.wp
     simp [execOp, Act.eval, go_sem, d7]
     exact hK _ _ (hR.step (Below.refl _ _) 11 _ (by decide) (fun u hu => by rw [hpvl] at hu; simpa using hu) (fun e => absurd e (by decide)) (fun e => absurd e (by decide)) (fun e => absurd e (by decide)) (fun e => absurd e (by decide)))
    ·obtain rfl := Option.some.inj ho
     have l13 : L 13 = false := by
      cases q : L 13 with
      | false => rfl
      | true => have := cl 13 12 (by simp [depsG]) q; rw [hLi] at this; cases this
     unfold Oper.wp
     simp [execOp, go_sem]
     exact hK _ _ (hR.step ((Below.refl _ _).alloc (Nat.le_refl _) _) 12 _ (by decide) (fun u hu => by rw [hpvl] at hu; simp at hu) (fun e => absurd e (by decide)) (fun e => absurd e (by decide)) (fun e => absurd e (by decide)) (fun _ => ⟨l13, _, rfl, hR.bl.size, by simp, heap_alloc_new _ _⟩))
    ·obtain ⟨y, e8⟩ := hR.v8 (need 8 (by simp [depsG]))
     obtain ⟨bq, e12, h1, h2, h3, -⟩ := hR.v12 (need 12 (by simp [depsG]))
     have d8 : a'.tmps[75]? = some (.agg #[.int .i64 (u.P.W : Int), .int .i64 (u.P.H : Int), .slice (some ⟨y, 0, none⟩) u.P.xs.length u.P.xs.length]) := (hv 8 75 (need 8 (by simp [depsG])) rfl).trans (by rw [e8])
     have d12 : a'.tmps[15]? = some (.pointer (some ⟨bq, 0, none⟩)) := (hv 12 15 (need 12 (by simp [depsG])) rfl).trans (by rw [e12])
     obtain rfl := Option.some.inj ho
     refine wp_store_row 26 (.tmp 15) (.tmp 75) rfl bq _ (eval_ofE d12) (eval_ofE d8) _ _ (h3 hLi) (by kernel_rfl) rfl (by simp [Value.oneCell']) ?_
     exact hK _ _ (hR.store bq y _ (by rw [hpvl]; rfl) (need 12 (by simp [depsG])) hLi e12)
    ·obtain rfl := Option.some.inj ho
     have d9 : a'.tmps[76]? = some (.int .i64 u.r) := (hv 9 76 (need 9 (by simp [depsG])) rfl).trans (by rw [hR.pure 9 (.int .i64 u.r) (by rw [hpvl]; rfl) (need 9 (by simp [depsG]))])
     unfold Oper.wp
     simp [execOp, Act.eval, go_sem, d9]
     exact hK _ _ (hR.step (Below.refl _ _) 14 _ (by decide) (fun u hu => by rw [hpvl] at hu; simpa using hu) (fun e => absurd e (by decide)) (fun e => absurd e (by decide)) (fun e => absurd e (by decide)) (fun e => absurd e (by decide)))
    ·obtain rfl := Option.some.inj ho
     have d10 : a'.tmps[77]? = some (.int .i64 u.d) := (hv 10 77 (need 10 (by simp [depsG])) rfl).trans (by rw [hR.pure 10 (.int .i64 u.d) (by rw [hpvl]; rfl) (need 10 (by simp [depsG]))])
     unfold Oper.wp
     simp [execOp, Act.eval, go_sem, d10]
     exact hK _ _ (hR.step (Below.refl _ _) 15 _ (by decide) (fun u hu => by rw [hpvl] at hu; simpa using hu) (fun e => absurd e (by decide)) (fun e => absurd e (by decide)) (fun e => absurd e (by decide)) (fun e => absurd e (by decide)))
    ·obtain rfl := Option.some.inj ho
     have d11 : a'.tmps[78]? = some (.nilIface) := (hv 11 78 (need 11 (by simp [depsG])) rfl).trans (by rw [hR.pure 11 (.nilIface) (by rw [hpvl]; rfl) (need 11 (by simp [depsG]))])
     unfold Oper.wp
     simp [execOp, Act.eval, go_sem, d11]
     exact hK _ _ (hR.step (Below.refl _ _) 16 _ (by decide) (fun u hu => by rw [hpvl] at hu; simpa using hu) (fun e => absurd e (by decide)) (fun e => absurd e (by decide)) (fun e => absurd e (by decide)) (fun e => absurd e (by decide)))
   case hQ =>
    intro L vals V hR al
    obtain ⟨bq, e12, hq1, -, -, h13⟩ := hR.v12 (al 12 (by omega))
    obtain ⟨y, hq⟩ := h13 (al 13 (by omega))
    have e14 := hR.pure 14 _ (by rw [hpvl]; rfl) (al 14 (by omega))
    have e15 := hR.pure 15 _ (by rw [hpvl]; rfl) (al 15 (by omega))
    have e16 := hR.pure 16 _ (by rw [hpvl]; rfl) (al 16 (by omega))
    have B89 := hide' (show Below wr.heap.size wr V from DR.out.trans hR.bl)
    clear hpvl hR al h13
    have Q9 := hide' hq
    clear hq
    simp only [dlG, List.range, List.range.loop, List.map, putsO, List.getD, List.getElem?_cons_zero, List.getElem?_cons_succ, Option.getD_some, Act.put, List.setIfInBounds_toArray, List.set_cons_zero, List.set_cons_succ, e12, e14, e15, e16]
    clear e12 e14 e15 e16
    have S9 := hide' (S7.out.below B89.out)
    have L9 := hide' (L7.out.next B89.out)
    have G9 := hide' ((B89.out.block _ (lt_of_block G7.out)).trans G7.out)
    clear GV DR wm hb
    have SB := hide' (sbox_any spb w4.heap.size _ _ _ _ _ _ _ V S9.out (by omega) (by omega) L9.out.2.2.1)
    go_wp2_with fail
    refine SB.out.mono ?_
    rintro e w10 ⟨x', y', X, Y, rfl, h1, h2, b⟩
    obtain ⟨e1, e2, e3, e4⟩ := BX.out x' y' X Y h1
    have FIN := hide' (L9.out.next b).2.2.2.2.2
    have G10 := (b.block _ (lt_of_block G9.out)).trans G9.out
    have Q10 := (b.block _ (lt_of_block Q9.out)).trans Q9.out
    have g0 := cell_of_row w10 _ 0 _ _ _ G10
    have g1 := cell_of_row w10 _ 1 _ _ _ G10
    have g2 := cell_of_row w10 _ 2 _ _ _ G10
    have q0 := cell_of_row w10 _ 0 _ _ _ Q10
    have q1 := cell_of_row w10 _ 1 _ _ _ Q10
    simp at g0 g1 g2 q0 q1
    clear h1 h2 b G10 Q10 SB S9 L9 G9 Q9 B89 BX
    obtain ⟨mr, hmr⟩ : ∃ mr, (q : Int) * R = mr := ⟨_, rfl⟩
    obtain ⟨md, hmd⟩ : ∃ md, (q : Int) * D = md := ⟨_, rfl⟩
    rw [hmr] at MR e1
    rw [hmd] at MD e2
    obtain ⟨ur, hur⟩ : ∃ ur, u.r = ur := ⟨_, rfl⟩
    obtain ⟨ud, hud⟩ : ∃ ud, u.d = ud := ⟨_, rfl⟩
    rw [hur] at NR1 e1 ⊢
    rw [hud] at NR1 e2 ⊢
    subst e1 e2 e3 e4
    have v1 : IntKind.i64.wrap ((q : Int) * R) = mr := by rw [hmr]; simp [IntKind.wrap, IntKind.signed, IntKind.bits]; omega
    have v2 : IntKind.i64.wrap ((q : Int) * D) = md := by rw [hmd]; simp [IntKind.wrap, IntKind.signed, IntKind.bits]; omega
    have v3 : IntKind.i64.wrap (ur + mr) = ur + mr := by simp [IntKind.wrap, IntKind.signed, IntKind.bits]; omega
    have v4 : IntKind.i64.wrap (ud + md) = ud + md := by simp [IntKind.wrap, IntKind.signed, IntKind.bits]; omega
    clear hur hud hmr hmd MR MD NR1
    have hb : ((P : Int) == 0) = false := by simp; omega
    go_wp2
    go_ret
    exact ⟨rfl, FIN.out⟩
theorem law_far_all (o : Out) (ta : Option Addr) (tn tc : Nat) (W H : Int) (xs : List Int) (a : Option Addr) (n c : Nat) (k : Int) (w : World) (hR : ArgR w o ta tn tc) (hP : ArgP w xs a n c) (hz : TzTab w) :
  Calls Tryz.prog 4 #[.agg #[.int .i64 o.kind, .int .i64 o.born, .int .i64 o.stay, .int .i64 o.states, .int .i64 o.radius, .slice ta tn tc, .string o.turns], .agg #[.int .i64 W, .int .i64 H, .slice a n c], .int .i64 k] w fun e w' => e = .returned (.bool true) ∧ Below w.heap.size w w' := by
 obtain ⟨f, hf⟩ := plaE_has o W H xs
 have bad : ∀ g, (∀ g', grE o W H xs g' → g' ≠ 0 ∧ g = g') → g ≠ 0 → ∀ V, LhfS o ta tn tc W H xs a n c w V → Calls Tryz.prog 17 #[.agg #[.int .i64 o.kind, .int .i64 o.born, .int .i64 o.stay, .int .i64 o.states, .int .i64 o.radius, .slice ta tn tc, .string o.turns], .agg #[.int .i64 W, .int .i64 H, .slice a n c], .int .i64 64] V (AgainPost ⟨0, 0, 0, g⟩ V) := fun g h g0 V hV => (again_bad o ta tn tc W H xs a n c 64 g V hV.1 hV.2.1 (fun g' hg' => Or.inl (h g' hg'))).mono (fun e w' q => q)
 by_cases f0 : f = 0
 ·subst f0
  by_cases ob : o.born % 2 = 1
  ·exact law_hf_bad o ta tn tc W H xs a n c k ⟨0, 0, 0, 1⟩ w hR hP hz (Or.inl (by simp)) (bad 1 (fun g h => by
    rcases h with ⟨g', h1, h2, h3⟩ | ⟨h1, h2, h3⟩ | ⟨h1, h2, h3⟩
    ·exact absurd (plaE_only h1 hf) h2
    ·omega
    ·omega) (by omega))
  ·obtain ⟨born, stay, hb, hs, b5, s5, hk1, hsh⟩ := pla_good hf
   obtain ⟨Wn, Hn, rfl, rfl, hW, hH, hn, hx⟩ := shape_sides hsh
   have hb0 : born % 2 = 0 := by omega
   have bt : born.testBit 0 = false := by rw [Nat.testBit_eq_decide_div_mod_eq]; simpa using hb0
   have h0 : ∀ g, grE o (Wn : Int) (Hn : Int) xs g → g = 0 := by
    rintro g (⟨g', h1, h2, h3⟩ | ⟨h1, h2, h3⟩ | ⟨h1, h2, h3⟩)
    ·exact absurd (plaE_only h1 hf) h2
    ·omega
    ·exact h3
   have gd : Good o := by
    rcases hf with ⟨_, h⟩ | ⟨_, h1, h2⟩ | ⟨_, _, _, h⟩ | ⟨hg, _⟩
    ·omega
    ·exact absurd h2.symm h1
    ·omega
    ·exact hg
   have hg : ∀ V, LhfS o ta tn tc (Wn : Int) (Hn : Int) xs a n c w V → Calls Tryz.prog 17 #[.agg #[.int .i64 o.kind, .int .i64 o.born, .int .i64 o.stay, .int .i64 o.states, .int .i64 o.radius, .slice ta tn tc, .string o.turns], .agg #[.int .i64 (Wn : Int), .int .i64 (Hn : Int), .slice a n c], .int .i64 64] V (AgainPost (agA born stay (firstG ⟨Wn, Hn, xs⟩) 64) V) := fun V hV => again_good o ta tn tc Wn Hn xs a n c born stay 64 V hV.1 hV.2.1 hV.2.2.1 h0 hb hs b5 s5 bt hn hx hW hH (by omega) (by omega)
   by_cases q : (agA born stay (firstG ⟨Wn, Hn, xs⟩) 64).f ≠ 0 ∨ k < 0 ∨ 40 < k
   ·exact law_hf_bad o ta tn tc (Wn : Int) (Hn : Int) xs a n c k _ w hR hP hz q hg
   ·obtain ⟨kn, rfl⟩ : ∃ kn : Nat, k = (kn : Int) := ⟨k.toNat, by omega⟩
    exact law_hf_main o ta tn tc Wn Hn xs a n c kn born stay w hR hP hz ⟨gd, hk1, born, hb, b5, hb0⟩ hsh hW hH hn hx hb hs b5 s5 bt hb0 (by omega) (Classical.byContradiction fun z => q (Or.inl z)) h0
 ·exact law_hf_bad o ta tn tc W H xs a n c k ⟨0, 0, 0, f⟩ w hR hP hz (Or.inl f0) (bad f (fun g h => by
   rcases h with ⟨g', h1, h2, h3⟩ | ⟨h1, h2, h3⟩ | ⟨h1, h2, h3⟩
   ·have := plaE_only hf h1
    omega
   ·exact absurd (plaE_only hf h1) f0
   ·exact absurd (plaE_only hf h1) f0) f0)
end Go.Proofs.YtemhcpldflcfbaaGreatDoor
