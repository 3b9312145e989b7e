/-
  What the last text of this claim leans on, part 40: LawHj1, LawHj2, Hr2, Hf5.
-/
import Derived.Test.YtemhcpldflcfbaaGreatDoorZj39
import Derived.Test.YtemhcpldflcfbaaGreatDoorZj35
import Derived.Test.YtemhcpldflcfbaaGreatDoorZj11
import Derived.Test.YtemhcpldflcfbaaGreatDoorZj36
import Derived.Test.YtemhcpldflcfbaaGreatDoorZj9
namespace Go.Proofs.YtemhcpldflcfbaaGreatDoor
open Go.RowKit
set_option linter.unusedVariables false
theorem lv_none {qs : List Sq} {n t : Nat} {fr fd : Int} (h : ∀ u v, valQ qs n t (u - fr) (v - fd) = 0) : ((lvC qs n t : Nat) : Int) = 0 := by
 rw [lvC_plane (F := fun _ _ => 0) h (l := 0) (u := 0) (m := 0) (k := 0) (fun _ _ _ => rfl)]
 rfl
set_option maxRecDepth 100000 in
set_option maxHeartbeats 12800000 in
theorem law_hj_shape (o : Out) (ta : Option Addr) (tn tc : Nat) (W H : Int) (xs : List Int) (a : Option Addr) (n c : Nat) (r d k x y : Int) (w : World) (hR : ArgR w o ta tn tc) (hP : ArgP w xs a n c) (hg : Handle w) (hz : TzTab w) (hy : YesNew o) (hf : shapeF W H xs ≠ 0) :
  Calls Tryz.prog 3 #[.agg #[.int .i64 o.kind, .int .i64 o.born, .int .i64 o.stay, .int .i64 o.states, .int .i64 o.radius, .slice ta tn tc, .string o.turns], .agg #[.int .i64 W, .int .i64 H, .slice a n c], .int .i64 r, .int .i64 d, .int .i64 k, .int .i64 x, .int .i64 y] w fun e w' => e = .returned (.bool true) ∧ Below w.heap.size w w' := by
 have L0 := LhS.start (W := W) (H := H) hR hP hg hz
 obtain ⟨w1, hw1⟩ : ∃ w1, (w.alloc (.cells #[.int .i64 o.kind, .int .i64 o.born, .int .i64 o.stay, .int .i64 o.states, .int .i64 o.radius, .slice ta tn tc, .string o.turns] 24)).alloc (.cells #[.int .i64 W, .int .i64 H, .slice a n c] 26) = w1 := ⟨_, rfl⟩
 rw [hw1] at L0
 have L1 := hide' L0
 have HW1 := hide' hw1
 have HY := hide' hy
 have HF := hide' hf
 clear hw1 hR hP hg hz hy L0 hf
 go_enter Tryz.func3, Tryz.ntmps3
 go_upto_region 1 with fail
 rw [HW1.out]
 have R0 := L1.out.2.2.2.2.1
 have x0 := cell_of_row w1 _ 0 _ _ _ R0
 have x1 := cell_of_row w1 _ 1 _ _ _ R0
 have x2 := cell_of_row w1 _ 2 _ _ _ R0
 have x3 := cell_of_row w1 _ 3 _ _ _ R0
 have x4 := cell_of_row w1 _ 4 _ _ _ R0
 have x5 := cell_of_row w1 _ 5 _ _ _ R0
 have x6 := cell_of_row w1 _ 6 _ _ _ R0
 simp at x0 x1 x2 x3 x4 x5 x6
 clear R0
 go_wp2_with fail
 refine (new_yes o ta tn tc w1 L1.out.1 HY.out).mono ?_
 rintro e w2 ⟨spb, b0, s0, hbs, rfl, sp, b⟩
 have L2 := hide' (L1.out.next b)
 have S2 := hide' sp
 have BS := hide' hbs
 have B2 := hide' b
 clear x0 x1 x2 x3 x4 x5 x6 b sp hbs
 have R0 := L2.out.2.2.2.2.1
 have x0 := cell_of_row w2 _ 0 _ _ _ R0
 have x1 := cell_of_row w2 _ 1 _ _ _ R0
 have x2 := cell_of_row w2 _ 2 _ _ _ R0
 have x3 := cell_of_row w2 _ 3 _ _ _ R0
 have x4 := cell_of_row w2 _ 4 _ _ _ R0
 have x5 := cell_of_row w2 _ 5 _ _ _ R0
 have x6 := cell_of_row w2 _ 6 _ _ _ R0
 simp at x0 x1 x2 x3 x4 x5 x6
 clear R0
 go_wp2_with fail
 refine (Fault_any o ta tn tc w2 L2.out.1).mono ?_
 rintro e w3 ⟨⟨rfl, g⟩ | ⟨rfl, g⟩, b⟩
 rotate_left
 ·exact absurd HY.out.1 g
 have L3 := hide' (L2.out.next b)
 have S3 := hide' (S2.out.below b)
 have B3 := hide' (B2.out.trans (b.mono B2.out.size))
 clear x0 x1 x2 x3 x4 x5 x6 b g
 have R0 := L3.out.2.2.2.2.1
 have x0 := cell_of_row w3 _ 0 _ _ _ R0
 have x1 := cell_of_row w3 _ 1 _ _ _ R0
 simp at x0 x1
 clear R0
 rw [HY.out.2.1] at x0
 rw [BS.out.1] at x1
 have md : (b0 : Int) % 2 = 0 := by have := BS.out.2.2.2.2; omega
 go_wp2_with fail
 refine (err_nil_true w3).mono ?_
 rintro e w4 ⟨rfl, b⟩
 have L4 := hide' (L3.out.next b)
 have S4 := hide' (S3.out.below b)
 have B4 := hide' (B3.out.trans (b.mono B3.out.size))
 clear b x0 x1 md
 have R0 := L4.out.2.2.2.2.2.1
 have p0 := cell_of_row w4 _ 0 _ _ _ R0
 have p1 := cell_of_row w4 _ 1 _ _ _ R0
 have p2 := cell_of_row w4 _ 2 _ _ _ R0
 simp at p0 p1 p2
 clear R0
 go_wp2_with fail
 refine (Shape_P W H xs a n c w4 L4.out.2.1).mono ?_
 rintro e w5 ⟨rfl, b⟩
 have L5 := hide' (L4.out.next b)
 have S5 := hide' (S4.out.below b)
 have B5 := hide' (B4.out.trans (b.mono B4.out.size))
 clear b p0 p1 p2
 have R0 := L5.out.2.2.2.2.2.1
 have p0 := cell_of_row w5 _ 0 _ _ _ R0
 have p1 := cell_of_row w5 _ 1 _ _ _ R0
 have p2 := cell_of_row w5 _ 2 _ _ _ R0
 simp at p0 p1 p2
 clear R0
 obtain ⟨f, hf⟩ : ∃ f, shapeF W H xs = f := ⟨_, rfl⟩
 have PB := hide' (put_bad spb W H xs a n c r d w5 L5.out.2.1 HF.out)
 rw [hf] at PB HF ⊢
 have e0 : errOf f = .iface 56 (.int .i64 (f : Int)) := if_neg HF.out
 have EC := hide' (fun V (hV : Handle V) => err_any f V hV)
 rw [e0] at PB EC
 have k1 : ((f : Int) == 0) = false := by have := HF.out; simp; omega
 have k2 : ((f : Int) != 0) = true := by have := HF.out; simp; omega
 clear hf e0
 go_wp2_with fail
 refine PB.out.mono ?_
 rintro e w6 ⟨rfl, b⟩
 have L6 := hide' (L5.out.next b)
 have S6 := hide' (S5.out.below b)
 clear b p0 p1 p2
 go_wp2_with fail
 refine (EC.out w6 L6.out.2.2.1).mono ?_
 rintro e w7 ⟨rfl, b⟩
 have L7 := hide' (L6.out.next b)
 have S7 := hide' (S6.out.below b)
 clear b
 go_wp2_with fail
 refine (livingS_any spb _ _ _ _ _ _ _ _ 0 0 0 0 w7 S7.out (fun _ _ _ => rfl) (by omega) (by omega)).mono ?_
 rintro e w8 ⟨qs, n8, t8, fr, fd, ⟨-, -, hv⟩, rfl, rfl⟩
 have z := lv_none hv
 rw [z]
 have FIN := hide' L7.out.2.2.2.2.2.2.drew
 clear hv z
 go_wp2
 go_ret
 exact ⟨rfl, FIN.out⟩
set_option maxRecDepth 100000 in
set_option maxHeartbeats 12800000 in
theorem law_hj_far (o : Out) (ta : Option Addr) (tn tc : Nat) (W H : Int) (xs : List Int) (a : Option Addr) (n c : Nat) (r d k x y : Int) (w : World) (hR : ArgR w o ta tn tc) (hP : ArgP w xs a n c) (hg : Handle w) (hz : TzTab w) (hy : YesNew o) (hf : shapeF W H xs = 0) (hfar : (r < -1000000000000 ∨ 1000000000000 < r) ∨ (d < -1000000000000 ∨ 1000000000000 < d)) :
  Calls Tryz.prog 3 #[.agg #[.int .i64 o.kind, .int .i64 o.born, .int .i64 o.stay, .int .i64 o.states, .int .i64 o.radius, .slice ta tn tc, .string o.turns], .agg #[.int .i64 W, .int .i64 H, .slice a n c], .int .i64 r, .int .i64 d, .int .i64 k, .int .i64 x, .int .i64 y] w fun e w' => e = .returned (.bool true) ∧ Below w.heap.size w w' := by
 have L0 := LhS.start (W := W) (H := H) hR hP hg hz
 obtain ⟨w1, hw1⟩ : ∃ w1, (w.alloc (.cells #[.int .i64 o.kind, .int .i64 o.born, .int .i64 o.stay, .int .i64 o.states, .int .i64 o.radius, .slice ta tn tc, .string o.turns] 24)).alloc (.cells #[.int .i64 W, .int .i64 H, .slice a n c] 26) = w1 := ⟨_, rfl⟩
 rw [hw1] at L0
 have L1 := hide' L0
 have HW1 := hide' hw1
 have HY := hide' hy
 have HF := hide' hf
 have FAR := hide' hfar
 clear hw1 hR hP hg hz hy L0 hf hfar
 go_enter Tryz.func3, Tryz.ntmps3
 go_upto_region 1 with fail
 rw [HW1.out]
 have R0 := L1.out.2.2.2.2.1
 have x0 := cell_of_row w1 _ 0 _ _ _ R0
 have x1 := cell_of_row w1 _ 1 _ _ _ R0
 have x2 := cell_of_row w1 _ 2 _ _ _ R0
 have x3 := cell_of_row w1 _ 3 _ _ _ R0
 have x4 := cell_of_row w1 _ 4 _ _ _ R0
 have x5 := cell_of_row w1 _ 5 _ _ _ R0
 have x6 := cell_of_row w1 _ 6 _ _ _ R0
 simp at x0 x1 x2 x3 x4 x5 x6
 clear R0
 go_wp2_with fail
 refine (new_yes o ta tn tc w1 L1.out.1 HY.out).mono ?_
 rintro e w2 ⟨spb, b0, s0, hbs, rfl, sp, b⟩
 have L2 := hide' (L1.out.next b)
 have S2 := hide' sp
 have BS := hide' hbs
 have B2 := hide' b
 clear x0 x1 x2 x3 x4 x5 x6 b sp hbs
 have R0 := L2.out.2.2.2.2.1
 have x0 := cell_of_row w2 _ 0 _ _ _ R0
 have x1 := cell_of_row w2 _ 1 _ _ _ R0
 have x2 := cell_of_row w2 _ 2 _ _ _ R0
 have x3 := cell_of_row w2 _ 3 _ _ _ R0
 have x4 := cell_of_row w2 _ 4 _ _ _ R0
 have x5 := cell_of_row w2 _ 5 _ _ _ R0
 have x6 := cell_of_row w2 _ 6 _ _ _ R0
 simp at x0 x1 x2 x3 x4 x5 x6
 clear R0
 go_wp2_with fail
 refine (Fault_any o ta tn tc w2 L2.out.1).mono ?_
 rintro e w3 ⟨⟨rfl, g⟩ | ⟨rfl, g⟩, b⟩
 rotate_left
 ·exact absurd HY.out.1 g
 have L3 := hide' (L2.out.next b)
 have S3 := hide' (S2.out.below b)
 have B3 := hide' (B2.out.trans (b.mono B2.out.size))
 clear x0 x1 x2 x3 x4 x5 x6 b g
 have R0 := L3.out.2.2.2.2.1
 have x0 := cell_of_row w3 _ 0 _ _ _ R0
 have x1 := cell_of_row w3 _ 1 _ _ _ R0
 simp at x0 x1
 clear R0
 rw [HY.out.2.1] at x0
 rw [BS.out.1] at x1
 have md : (b0 : Int) % 2 = 0 := by have := BS.out.2.2.2.2; omega
 go_wp2_with fail
 refine (err_nil_true w3).mono ?_
 rintro e w4 ⟨rfl, b⟩
 have L4 := hide' (L3.out.next b)
 have S4 := hide' (S3.out.below b)
 have B4 := hide' (B3.out.trans (b.mono B3.out.size))
 clear b x0 x1 md
 have R0 := L4.out.2.2.2.2.2.1
 have p0 := cell_of_row w4 _ 0 _ _ _ R0
 have p1 := cell_of_row w4 _ 1 _ _ _ R0
 have p2 := cell_of_row w4 _ 2 _ _ _ R0
 simp at p0 p1 p2
 clear R0
 go_wp2_with fail
 refine (Shape_P W H xs a n c w4 L4.out.2.1).mono ?_
 rintro e w5 ⟨rfl, b⟩
 have L5 := hide' (L4.out.next b)
 have S5 := hide' (S4.out.below b)
 have B5 := hide' (B4.out.trans (b.mono B4.out.size))
 clear b p0 p1 p2
 have R0 := L5.out.2.2.2.2.2.1
 have p0 := cell_of_row w5 _ 0 _ _ _ R0
 have p1 := cell_of_row w5 _ 1 _ _ _ R0
 have p2 := cell_of_row w5 _ 2 _ _ _ R0
 simp at p0 p1 p2
 clear R0
 have PB := hide' (put_far spb W H xs a n c r d w5 L5.out.2.1 HF.out FAR.out)
 rw [HF.out]
 have key : r < -1000000000000 ∨ (¬ r < -1000000000000 ∧ 1000000000000 < r) ∨ (¬ r < -1000000000000 ∧ ¬ 1000000000000 < r ∧ d < -1000000000000) ∨ (¬ r < -1000000000000 ∧ ¬ 1000000000000 < r ∧ ¬ d < -1000000000000 ∧ 1000000000000 < d) := by have := FAR.out; omega
 rcases key with h1 | ⟨h1, h2⟩ | ⟨h1, h2, h3⟩ | ⟨h1, h2, h3, h4⟩
 all_goals (
  go_wp2_with fail
  refine PB.out.mono ?_
  rintro e w6 ⟨rfl, b⟩
  have L6 := hide' (L5.out.next b)
  have S6 := hide' (S5.out.below b)
  clear b p0 p1 p2
  go_wp2_with fail
  refine (err_one w6 L6.out.2.2.1).mono ?_
  rintro e w7 ⟨rfl, b⟩
  have L7 := hide' (L6.out.next b)
  have S7 := hide' (S6.out.below b)
  clear b
  go_wp2_with fail
  refine (livingS_any spb _ _ _ _ _ _ _ _ 0 0 0 0 w7 S7.out (fun _ _ _ => rfl) (by omega) (by omega)).mono ?_
  rintro e w8 ⟨qs, n8, t8, fr, fd, ⟨-, -, hv⟩, rfl, rfl⟩
  have z := lv_none hv
  rw [z]
  have FIN := hide' L7.out.2.2.2.2.2.2.drew
  clear hv z
  go_wp2
  go_ret
  exact ⟨rfl, FIN.out⟩)
set_option maxRecDepth 100000 in
set_option maxHeartbeats 12800000 in
theorem law_hj_many (o : Out) (ta : Option Addr) (tn tc : Nat) (W H : Nat) (xs : List Int) (a : Option Addr) (n c : Nat) (r d k x y : Int) (w : World) (hR : ArgR w o ta tn tc) (hP : ArgP w xs a n c) (hg : Handle w) (hz : TzTab w) (hy : YesNew o) (hsh : shapeF (W : Int) (H : Int) xs = 0) (hW : W ≤ 100) (hH : H ≤ 100) (hm : xs.length = W * H) (hb : ∀ i, 0 ≤ xs.getD i 0 ∧ xs.getD i 0 ≤ 1) (hr : -1000000000000 ≤ r ∧ r ≤ 1000000000000) (hd : -1000000000000 ≤ d ∧ d ≤ 1000000000000) (hk : 12 < k) :
  Calls Tryz.prog 3 #[.agg #[.int .i64 o.kind, .int .i64 o.born, .int .i64 o.stay, .int .i64 o.states, .int .i64 o.radius, .slice ta tn tc, .string o.turns], .agg #[.int .i64 (W : Int), .int .i64 (H : Int), .slice a n c], .int .i64 r, .int .i64 d, .int .i64 k, .int .i64 x, .int .i64 y] w fun e w' => e = .returned (.bool true) ∧ Below w.heap.size w w' := by
 have L0 := LhS.start (W := (W : Int)) (H := (H : Int)) hR hP hg hz
 obtain ⟨w1, hw1⟩ : ∃ w1, (w.alloc (.cells #[.int .i64 o.kind, .int .i64 o.born, .int .i64 o.stay, .int .i64 o.states, .int .i64 o.radius, .slice ta tn tc, .string o.turns] 24)).alloc (.cells #[.int .i64 (W : Int), .int .i64 (H : Int), .slice a n c] 26) = w1 := ⟨_, rfl⟩
 rw [hw1] at L0
 have L1 := hide' L0
 have HW1 := hide' hw1
 have HY := hide' hy
 have HF := hide' (And.intro hsh (And.intro hW (And.intro hH (And.intro hm hb))))
 have RD := hide' (And.intro hr hd)
 clear hw1 hR hP hg hz hy L0 hsh hW hH hm hb hr hd
 go_enter Tryz.func3, Tryz.ntmps3
 go_upto_region 1 with fail
 rw [HW1.out]
 have R0 := L1.out.2.2.2.2.1
 have x0 := cell_of_row w1 _ 0 _ _ _ R0
 have x1 := cell_of_row w1 _ 1 _ _ _ R0
 have x2 := cell_of_row w1 _ 2 _ _ _ R0
 have x3 := cell_of_row w1 _ 3 _ _ _ R0
 have x4 := cell_of_row w1 _ 4 _ _ _ R0
 have x5 := cell_of_row w1 _ 5 _ _ _ R0
 have x6 := cell_of_row w1 _ 6 _ _ _ R0
 simp at x0 x1 x2 x3 x4 x5 x6
 clear R0
 go_wp2_with fail
 refine (new_yes o ta tn tc w1 L1.out.1 HY.out).mono ?_
 rintro e w2 ⟨spb, b0, s0, hbs, rfl, sp, b⟩
 have L2 := hide' (L1.out.next b)
 have S2 := hide' sp
 have BS := hide' hbs
 have B2 := hide' b
 clear x0 x1 x2 x3 x4 x5 x6 b sp hbs
 have R0 := L2.out.2.2.2.2.1
 have x0 := cell_of_row w2 _ 0 _ _ _ R0
 have x1 := cell_of_row w2 _ 1 _ _ _ R0
 have x2 := cell_of_row w2 _ 2 _ _ _ R0
 have x3 := cell_of_row w2 _ 3 _ _ _ R0
 have x4 := cell_of_row w2 _ 4 _ _ _ R0
 have x5 := cell_of_row w2 _ 5 _ _ _ R0
 have x6 := cell_of_row w2 _ 6 _ _ _ R0
 simp at x0 x1 x2 x3 x4 x5 x6
 clear R0
 go_wp2_with fail
 refine (Fault_any o ta tn tc w2 L2.out.1).mono ?_
 rintro e w3 ⟨⟨rfl, g⟩ | ⟨rfl, g⟩, b⟩
 rotate_left
 ·exact absurd HY.out.1 g
 have L3 := hide' (L2.out.next b)
 have S3 := hide' (S2.out.below b)
 have B3 := hide' (B2.out.trans (b.mono B2.out.size))
 clear x0 x1 x2 x3 x4 x5 x6 b g
 have R0 := L3.out.2.2.2.2.1
 have x0 := cell_of_row w3 _ 0 _ _ _ R0
 have x1 := cell_of_row w3 _ 1 _ _ _ R0
 simp at x0 x1
 clear R0
 rw [HY.out.2.1] at x0
 rw [BS.out.1] at x1
 have md : (b0 : Int) % 2 = 0 := by have := BS.out.2.2.2.2; omega
 go_wp2_with fail
 refine (err_nil_true w3).mono ?_
 rintro e w4 ⟨rfl, b⟩
 have L4 := hide' (L3.out.next b)
 have S4 := hide' (S3.out.below b)
 have B4 := hide' (B3.out.trans (b.mono B3.out.size))
 clear b x0 x1 md
 have R0 := L4.out.2.2.2.2.2.1
 have p0 := cell_of_row w4 _ 0 _ _ _ R0
 have p1 := cell_of_row w4 _ 1 _ _ _ R0
 have p2 := cell_of_row w4 _ 2 _ _ _ R0
 simp at p0 p1 p2
 clear R0
 go_wp2_with fail
 refine (Shape_P (W : Int) (H : Int) xs a n c w4 L4.out.2.1).mono ?_
 rintro e w5 ⟨rfl, b⟩
 have L5 := hide' (L4.out.next b)
 have S5 := hide' (S4.out.below b)
 have B5 := hide' (B4.out.trans (b.mono B4.out.size))
 clear b p0 p1 p2
 have R0 := L5.out.2.2.2.2.2.1
 have p0 := cell_of_row w5 _ 0 _ _ _ R0
 have p1 := cell_of_row w5 _ 1 _ _ _ R0
 have p2 := cell_of_row w5 _ 2 _ _ _ R0
 simp at p0 p1 p2
 clear R0
 rw [HF.out.1]
 have r1 : ¬ r < -1000000000000 := by have := RD.out; omega
 have r2 : ¬ 1000000000000 < r := by have := RD.out; omega
 have r3 : ¬ d < -1000000000000 := by have := RD.out; omega
 have r4 : ¬ 1000000000000 < d := by have := RD.out; omega
 have PN := hide' (put_new spb w1.heap.size _ _ _ _ _ _ w5 S5.out W H xs a n c HF.out.1 HF.out.2.1 HF.out.2.2.1 HF.out.2.2.2.1 HF.out.2.2.2.2 (fun V hV => (L1.out.next (B5.out.trans hV)).2.1) r d RD.out.1 RD.out.2 (by omega) (by omega))
 go_wp2_with fail
 refine PN.out.mono ?_
 rintro e w6 ⟨rfl, sp, b⟩
 have S6 := hide' sp
 have B6 := hide' (B5.out.trans b)
 have L6 := hide' (L1.out.next B6.out)
 clear r1 r2 r3 r4 p0 p1 p2 b sp
 go_wp2_with fail
 refine (err_nil_true w6).mono ?_
 rintro e w7 ⟨rfl, b⟩
 have L7 := hide' (L6.out.next b)
 have S7 := hide' (S6.out.below b)
 have B7 := hide' (B6.out.trans (b.mono B6.out.size))
 clear b
 have FIN := hide' L7.out.2.2.2.2.2.2
 go_wp2
 go_ret
 exact ⟨rfl, FIN.out⟩
set_option maxRecDepth 100000 in
set_option maxHeartbeats 12800000 in
theorem law_hj_neg (o : Out) (ta : Option Addr) (tn tc : Nat) (W H : Nat) (xs : List Int) (a : Option Addr) (n c : Nat) (r d k x y : Int) (w : World) (hR : ArgR w o ta tn tc) (hP : ArgP w xs a n c) (hg : Handle w) (hz : TzTab w) (hy : YesNew o) (hsh : shapeF (W : Int) (H : Int) xs = 0) (hW : W ≤ 100) (hH : H ≤ 100) (hm : xs.length = W * H) (hb : ∀ i, 0 ≤ xs.getD i 0 ∧ xs.getD i 0 ≤ 1) (hr : -1000000000000 ≤ r ∧ r ≤ 1000000000000) (hd : -1000000000000 ≤ d ∧ d ≤ 1000000000000) (hk : k < 0) :
  Calls Tryz.prog 3 #[.agg #[.int .i64 o.kind, .int .i64 o.born, .int .i64 o.stay, .int .i64 o.states, .int .i64 o.radius, .slice ta tn tc, .string o.turns], .agg #[.int .i64 (W : Int), .int .i64 (H : Int), .slice a n c], .int .i64 r, .int .i64 d, .int .i64 k, .int .i64 x, .int .i64 y] w fun e w' => e = .returned (.bool true) ∧ Below w.heap.size w w' := by
 have L0 := LhS.start (W := (W : Int)) (H := (H : Int)) hR hP hg hz
 obtain ⟨w1, hw1⟩ : ∃ w1, (w.alloc (.cells #[.int .i64 o.kind, .int .i64 o.born, .int .i64 o.stay, .int .i64 o.states, .int .i64 o.radius, .slice ta tn tc, .string o.turns] 24)).alloc (.cells #[.int .i64 (W : Int), .int .i64 (H : Int), .slice a n c] 26) = w1 := ⟨_, rfl⟩
 rw [hw1] at L0
 have L1 := hide' L0
 have HW1 := hide' hw1
 have HY := hide' hy
 have HF := hide' (And.intro hsh (And.intro hW (And.intro hH (And.intro hm hb))))
 have RD := hide' (And.intro hr hd)
 clear hw1 hR hP hg hz hy L0 hsh hW hH hm hb hr hd
 go_enter Tryz.func3, Tryz.ntmps3
 go_upto_region 1 with fail
 rw [HW1.out]
 have R0 := L1.out.2.2.2.2.1
 have x0 := cell_of_row w1 _ 0 _ _ _ R0
 have x1 := cell_of_row w1 _ 1 _ _ _ R0
 have x2 := cell_of_row w1 _ 2 _ _ _ R0
 have x3 := cell_of_row w1 _ 3 _ _ _ R0
 have x4 := cell_of_row w1 _ 4 _ _ _ R0
 have x5 := cell_of_row w1 _ 5 _ _ _ R0
 have x6 := cell_of_row w1 _ 6 _ _ _ R0
 simp at x0 x1 x2 x3 x4 x5 x6
 clear R0
 go_wp2_with fail
 refine (new_yes o ta tn tc w1 L1.out.1 HY.out).mono ?_
 rintro e w2 ⟨spb, b0, s0, hbs, rfl, sp, b⟩
 have L2 := hide' (L1.out.next b)
 have S2 := hide' sp
 have BS := hide' hbs
 have B2 := hide' b
 clear x0 x1 x2 x3 x4 x5 x6 b sp hbs
 have R0 := L2.out.2.2.2.2.1
 have x0 := cell_of_row w2 _ 0 _ _ _ R0
 have x1 := cell_of_row w2 _ 1 _ _ _ R0
 have x2 := cell_of_row w2 _ 2 _ _ _ R0
 have x3 := cell_of_row w2 _ 3 _ _ _ R0
 have x4 := cell_of_row w2 _ 4 _ _ _ R0
 have x5 := cell_of_row w2 _ 5 _ _ _ R0
 have x6 := cell_of_row w2 _ 6 _ _ _ R0
 simp at x0 x1 x2 x3 x4 x5 x6
 clear R0
 go_wp2_with fail
 refine (Fault_any o ta tn tc w2 L2.out.1).mono ?_
 rintro e w3 ⟨⟨rfl, g⟩ | ⟨rfl, g⟩, b⟩
 rotate_left
 ·exact absurd HY.out.1 g
 have L3 := hide' (L2.out.next b)
 have S3 := hide' (S2.out.below b)
 have B3 := hide' (B2.out.trans (b.mono B2.out.size))
 clear x0 x1 x2 x3 x4 x5 x6 b g
 have R0 := L3.out.2.2.2.2.1
 have x0 := cell_of_row w3 _ 0 _ _ _ R0
 have x1 := cell_of_row w3 _ 1 _ _ _ R0
 simp at x0 x1
 clear R0
 rw [HY.out.2.1] at x0
 rw [BS.out.1] at x1
 have md : (b0 : Int) % 2 = 0 := by have := BS.out.2.2.2.2; omega
 go_wp2_with fail
 refine (err_nil_true w3).mono ?_
 rintro e w4 ⟨rfl, b⟩
 have L4 := hide' (L3.out.next b)
 have S4 := hide' (S3.out.below b)
 have B4 := hide' (B3.out.trans (b.mono B3.out.size))
 clear b x0 x1 md
 have R0 := L4.out.2.2.2.2.2.1
 have p0 := cell_of_row w4 _ 0 _ _ _ R0
 have p1 := cell_of_row w4 _ 1 _ _ _ R0
 have p2 := cell_of_row w4 _ 2 _ _ _ R0
 simp at p0 p1 p2
 clear R0
 go_wp2_with fail
 refine (Shape_P (W : Int) (H : Int) xs a n c w4 L4.out.2.1).mono ?_
 rintro e w5 ⟨rfl, b⟩
 have L5 := hide' (L4.out.next b)
 have S5 := hide' (S4.out.below b)
 have B5 := hide' (B4.out.trans (b.mono B4.out.size))
 clear b p0 p1 p2
 have R0 := L5.out.2.2.2.2.2.1
 have p0 := cell_of_row w5 _ 0 _ _ _ R0
 have p1 := cell_of_row w5 _ 1 _ _ _ R0
 have p2 := cell_of_row w5 _ 2 _ _ _ R0
 simp at p0 p1 p2
 clear R0
 rw [HF.out.1]
 have r1 : ¬ r < -1000000000000 := by have := RD.out; omega
 have r2 : ¬ 1000000000000 < r := by have := RD.out; omega
 have r3 : ¬ d < -1000000000000 := by have := RD.out; omega
 have r4 : ¬ 1000000000000 < d := by have := RD.out; omega
 have PN := hide' (put_new spb w1.heap.size _ _ _ _ _ _ w5 S5.out W H xs a n c HF.out.1 HF.out.2.1 HF.out.2.2.1 HF.out.2.2.2.1 HF.out.2.2.2.2 (fun V hV => (L1.out.next (B5.out.trans hV)).2.1) r d RD.out.1 RD.out.2 (by omega) (by omega))
 go_wp2_with fail
 refine PN.out.mono ?_
 rintro e w6 ⟨rfl, sp, b⟩
 have S6 := hide' sp
 have B6 := hide' (B5.out.trans b)
 have L6 := hide' (L1.out.next B6.out)
 clear r1 r2 r3 r4 p0 p1 p2 b sp
 go_wp2_with fail
 refine (err_nil_true w6).mono ?_
 rintro e w7 ⟨rfl, b⟩
 have L7 := hide' (L6.out.next b)
 have S7 := hide' (S6.out.below b)
 have B7 := hide' (B6.out.trans (b.mono B6.out.size))
 clear b
 have hk2 : ¬ 12 < k := by omega
 go_wp2_with fail
 refine (jump_neg spb k w7 (Or.inl hk)).mono ?_
 rintro e w8 ⟨rfl, rfl⟩
 go_wp2_with fail
 refine (err_one w8 L7.out.2.2.1).mono ?_
 rintro e w9 ⟨rfl, b⟩
 have FIN := hide' (L7.out.next b).2.2.2.2.2.2
 clear b
 go_wp2
 go_ret
 exact ⟨rfl, FIN.out⟩
theorem info_intR : (Tryz.prog.info? 3).map (fun i => (i.zero, i.size, i.bytes)) = some (some (.int .i64 0), 1, 8) := by kernel_rfl
theorem mk_winN (N : Nat) (hN : N ≤ 10000) (w : World) : (Instr.makeSlice 22 (.int .i64 (N : Int)) (.int .i64 (N : Int))).run Tryz.prog w = .ok (.slice (some ⟨w.heap.size, 0, none⟩) N N) (w.alloc (.cells (arrF N fun _ => .int .i64 0) 3)) := by
 rw [← made_allH]
 exact run_make_row' (P := Tryz.prog) 22 3 (.int .i64 0) 8 Tryz.underlying22 info_intR rfl .i64 .i64 N (by omega) (by omega) w
def CeW (W H N : Nat) (F : Int → Int → Int) (x y : Int) (w : World) (e : Ending) (w' : World) : Prop := ∃ (cb : Nat) (gf : Nat → Int), e = .returned (.tuple #[.agg #[.int .i64 (W : Int), .int .i64 (H : Int), .slice (some ⟨cb, 0, none⟩) N N], .nilIface]) ∧ WinA w' cb N gf ∧ (∀ u v : Nat, u < W → v < H → gf (v * W + u) = F (x + (u : Int)) (y + (v : Int))) ∧ Below w.heap.size w w'
theorem cw_keep {W H N : Nat} {w6 w7 : World} {spb rb sb t L : Nat} {fr fd : Int} (e1 : w7.heap[spb]? = w6.heap[spb]?) (e2 : w7.heap[rb + 2]? = w6.heap[rb + 2]?) (h : w6.cell? ⟨spb, 11, none⟩ = some (.pointer (some ⟨sb, 0, none⟩)) ∧ w6.cell? ⟨spb, 12, none⟩ = some (.int .i32 (t : Int)) ∧ w6.cell? ⟨spb, 13, none⟩ = some (.int .i64 (L : Int)) ∧ w6.cell? ⟨spb, 14, none⟩ = some (.int .i64 fr) ∧ w6.cell? ⟨spb, 15, none⟩ = some (.int .i64 fd) ∧ w6.cell? ⟨rb + 2, 0, none⟩ = some (.int .i64 (W : Int)) ∧ w6.cell? ⟨rb + 2, 1, none⟩ = some (.int .i64 (H : Int)) ∧ w6.cell? ⟨rb + 2, 2, none⟩ = some (.slice (some ⟨rb + 1, 0, none⟩) N N)) : w7.cell? ⟨spb, 11, none⟩ = some (.pointer (some ⟨sb, 0, none⟩)) ∧ w7.cell? ⟨spb, 12, none⟩ = some (.int .i32 (t : Int)) ∧ w7.cell? ⟨spb, 13, none⟩ = some (.int .i64 (L : Int)) ∧ w7.cell? ⟨spb, 14, none⟩ = some (.int .i64 fr) ∧ w7.cell? ⟨spb, 15, none⟩ = some (.int .i64 fd) ∧ w7.cell? ⟨rb + 2, 0, none⟩ = some (.int .i64 (W : Int)) ∧ w7.cell? ⟨rb + 2, 1, none⟩ = some (.int .i64 (H : Int)) ∧ w7.cell? ⟨rb + 2, 2, none⟩ = some (.slice (some ⟨rb + 1, 0, none⟩) N N) := by
 obtain ⟨p0, p1, p2, p3, p4, p5, p6, p7⟩ := h
 exact ⟨(World.cell?_of_block (w := w6) (a := ⟨spb, 11, none⟩) e1).trans p0, (World.cell?_of_block (w := w6) (a := ⟨spb, 12, none⟩) e1).trans p1, (World.cell?_of_block (w := w6) (a := ⟨spb, 13, none⟩) e1).trans p2, (World.cell?_of_block (w := w6) (a := ⟨spb, 14, none⟩) e1).trans p3, (World.cell?_of_block (w := w6) (a := ⟨spb, 15, none⟩) e1).trans p4, (World.cell?_of_block (w := w6) (a := ⟨rb + 2, 0, none⟩) e2).trans p5, (World.cell?_of_block (w := w6) (a := ⟨rb + 2, 1, none⟩) e2).trans p6, (World.cell?_of_block (w := w6) (a := ⟨rb + 2, 2, none⟩) e2).trans p7⟩
set_option maxRecDepth 100000 in
set_option maxHeartbeats 12800000 in
theorem cellsW_any (spb B : Nat) (b s o : Int) (tv : Value) (M : Int) (F : Int → Int → Int) (K : Nat) (W H : Nat) (w : World) (hS : SpB w spb B b s o tv M F K) (hW : W ≤ 100) (hH : H ≤ 100) (x y : Int) (hx : -1000000000000 ≤ x ∧ x ≤ 1000000000000) (hy : -1000000000000 ≤ y ∧ y ≤ 1000000000000) (hM : M ≤ 144115188075855872) (hT : ∀ V, Below B w V → TzTab V) :
  Calls Tryz.prog 14 #[.pointer (some ⟨spb, 0, none⟩), .int .i64 x, .int .i64 y, .int .i64 (W : Int), .int .i64 (H : Int)] w (CeW W H (W * H) F x y w) := by
 obtain ⟨N, hN⟩ : ∃ x, W * H = x := ⟨_, rfl⟩
 rw [hN]
 have N4 : N ≤ 10000 := by rw [← hN]; exact Nat.le_trans (Nat.mul_le_mul hW hH) (by decide)
 have m1 : (W : Int) * (H : Int) = (N : Int) := by rw [← hN]; push_cast; rfl
 have HN := hide' hN
 have HWH := hide' (And.intro hW hH)
 clear hN
 obtain ⟨w1, hw1⟩ : ∃ w1, w.alloc (.cells #[.int .i64 0, .int .i64 0, .slice none 0 0] 26) = w1 := ⟨_, rfl⟩
 have HW1 := hide' hw1
 obtain ⟨rb, hrb⟩ : ∃ rb, w.heap.size = rb := ⟨_, rfl⟩
 have HRB := hide' hrb
 have B1 := hide' (show Below w.heap.size w w1 by rw [← hw1]; exact (Below.refl _ _).alloc (Nat.le_refl _) _)
 have R1 := hide' (show w1.heap[rb]? = some (.cells #[.int .i64 0, .int .i64 0, .slice none 0 0] 26 (0, 0)) by rw [← hw1, ← hrb]; exact heap_alloc_new _ _)
 have Z1 := hide' (show w1.heap.size = rb + 1 by rw [← hw1, ← hrb]; simp)
 have HS := hide' hS
 have FA1 := hide' (isFar_any x)
 have FA2 := hide' (isFar_any y)
 have SI1 := hide' (isSide_any (W : Int))
 have SI2 := hide' (isSide_any (H : Int))
 rw [decide_eq_false (show ¬ (x < -1000000000000 ∨ 1000000000000 < x) by omega)] at FA1
 rw [decide_eq_false (show ¬ (y < -1000000000000 ∨ 1000000000000 < y) by omega)] at FA2
 rw [decide_eq_true (show 0 ≤ (W : Int) ∧ (W : Int) ≤ 100 by omega)] at SI1
 rw [decide_eq_true (show 0 ≤ (H : Int) ∧ (H : Int) ≤ 100 by omega)] at SI2
 have HXY := hide' (And.intro hx (And.intro hy hM))
 have HT := hide' hT
 clear hw1 hrb hS hx hy hM hT
 go_enter Tryz.func14, Tryz.ntmps14
 go_upto_region 1 with fail
 rw [HW1.out, HRB.out]
 go_wp2_with fail
 refine (SI1.out w1).mono ?_
 rintro e w2 ⟨rfl, rfl⟩
 go_wp2_with fail
 refine (SI2.out w2).mono ?_
 rintro e w3 ⟨rfl, rfl⟩
 go_wp2_with fail
 refine (FA1.out w3).mono ?_
 rintro e w4 ⟨rfl, rfl⟩
 go_wp2_with fail
 refine (FA2.out w4).mono ?_
 rintro e w5 ⟨rfl, rfl⟩
 have mk := mk_winN N N4
 obtain ⟨w6, hw6⟩ : ∃ w6, (w5.alloc (.cells (arrF N fun _ => .int .i64 0) 3)).alloc (.cells #[.int .i64 (W : Int), .int .i64 (H : Int), .slice (some ⟨w5.heap.size, 0, none⟩) N N] 26) = w6 := ⟨_, rfl⟩
 have HW6 := hide' hw6
 have C6 := hide' (show WinA w6 (rb + 1) N (fun _ => 0) by rw [← hw6]; exact (heap_alloc_old _ _ (by simp [Z1.out])).trans (heap_atX _ _ _ Z1.out.symm))
 have O6 := hide' (show w6.heap[rb + 2]? = some (.cells #[.int .i64 (W : Int), .int .i64 (H : Int), .slice (some ⟨rb + 1, 0, none⟩) N N] 26 (0, 0)) by rw [← hw6, ← Z1.out]; exact heap_atX _ _ _ (by simp [Z1.out]))
 have B6 := hide' (show Below w5.heap.size w5 w6 by rw [← hw6]; exact ((Below.refl _ _).alloc (Nat.le_refl _) _).alloc (by simp) _)
 have R6 := hide' ((B6.out.block _ (lt_of_block R1.out)).trans R1.out)
 have BW := hide' (show Below w.heap.size w w6 from B1.out.trans (B6.out.mono B1.out.size))
 clear hw6
 go_upto_region 4 with fail
 rw [HW6.out]
 try rw [Z1.out]
 obtain ⟨h0, sb, t, L, fr, fd, n, g, cap, qs, kp, h1, h2, htg, h3, h4⟩ := HS.out.below BW.out
 have k0 := h1
 unfold spD at k0
 have s11 := cell_of_row w6 spb 11 _ _ _ k0
 have s12 := cell_of_row w6 spb 12 _ _ _ k0
 have s13 := cell_of_row w6 spb 13 _ _ _ k0
 have s14 := cell_of_row w6 spb 14 _ _ _ k0
 have s15 := cell_of_row w6 spb 15 _ _ _ k0
 have o0 := cell_of_row w6 (rb + 2) 0 _ _ _ O6.out
 have o1 := cell_of_row w6 (rb + 2) 1 _ _ _ O6.out
 have o2 := cell_of_row w6 (rb + 2) 2 _ _ _ O6.out
 simp at s11 s12 s13 s14 s15 o0 o1 o2
 obtain ⟨X0, hX0⟩ : ∃ z, fr - x = z := ⟨_, rfl⟩
 obtain ⟨Y0, hY0⟩ : ∃ z, fd - y = z := ⟨_, rfl⟩
 have hxy := HXY.out
 have a1 : IntKind.i64.wrap X0 = X0 := by simp [IntKind.wrap, IntKind.bits, IntKind.signed]; have := h2.r1; have := h2.r2; have := sideI_pos n; omega
 have a2 : IntKind.i64.wrap Y0 = Y0 := by simp [IntKind.wrap, IntKind.bits, IntKind.signed]; have := h2.d1; have := h2.d2; have := sideI_pos n; omega
 have SC := hide' (show Calls Tryz.prog 37 #[.pointer (some ⟨sb, 0, none⟩), .int .i32 (t : Int), .int .i64 (L : Int), .int .i64 X0, .int .i64 Y0, .agg #[.int .i64 (W : Int), .int .i64 (H : Int), .slice (some ⟨rb + 1, 0, none⟩) N N]] w6.drew (ShO W H (rb + 1) qs n t X0 Y0 (fun _ => 0) w6.drew) from
  by
   have q := show_any n (by have := h2.hi; omega) L sb B g cap qs t X0 Y0 W H (rb + 1) (fun _ => 0) w6.drew h2.lev h2.stk.drewS h2.wf (by have := h2.r1; omega) (by have := h2.r2; omega) (by have := h2.d1; omega) (by have := h2.d2; omega) HWH.out.1 HWH.out.2 (by rw [HN.out]; exact C6.out) (fun V hV => HT.out V ((BW.out.mono HS.out.lt.2).trans ⟨hV.os, hV.tape, hV.output, hV.size, fun k hk => hV.keep k (by show k < w6.heap.size; have := BW.out.size; have := HS.out.lt.2; omega) (by have := HRB.out; have := HS.out.lt.2; omega)⟩))
   rw [HN.out] at q
   exact q)
 have SA := hide' (And.intro s11 (And.intro s12 (And.intro s13 (And.intro s14 (And.intro s15 (And.intro o0 (And.intro o1 o2)))))))
 have KK := hide' (show ∀ V, KpW (rb + 1) w6.drew V → V.cell? ⟨spb, 11, none⟩ = some (.pointer (some ⟨sb, 0, none⟩)) ∧ V.cell? ⟨spb, 12, none⟩ = some (.int .i32 (t : Int)) ∧ V.cell? ⟨spb, 13, none⟩ = some (.int .i64 (L : Int)) ∧ V.cell? ⟨spb, 14, none⟩ = some (.int .i64 fr) ∧ V.cell? ⟨spb, 15, none⟩ = some (.int .i64 fd) ∧ V.cell? ⟨rb + 2, 0, none⟩ = some (.int .i64 (W : Int)) ∧ V.cell? ⟨rb + 2, 1, none⟩ = some (.int .i64 (H : Int)) ∧ V.cell? ⟨rb + 2, 2, none⟩ = some (.slice (some ⟨rb + 1, 0, none⟩) N N) from fun V hkw => by
  have hsp := HS.out.lt.1
  have hrb := HRB.out
  have zz : w6.drew.heap.size = rb + 3 := by show w6.heap.size = _; rw [← HW6.out]; simp [Z1.out]
  exact cw_keep (hkw.keep spb (by omega) (by omega)) (hkw.keep (rb + 2) (by omega) (by omega)) SA.out)
 have HV := hide' (And.intro h2.val (And.intro hX0 hY0))
 have LE := hide' (fun u v => val_le (qs := qs) n t u v)
 clear h0 h1 h2 h3 h4 htg k0 hxy
 go_region_held3 (fun V => V.cell? ⟨spb, 11, none⟩ = some (.pointer (some ⟨sb, 0, none⟩)) ∧ V.cell? ⟨spb, 12, none⟩ = some (.int .i32 (t : Int)) ∧ V.cell? ⟨spb, 13, none⟩ = some (.int .i64 (L : Int)) ∧ V.cell? ⟨spb, 14, none⟩ = some (.int .i64 fr) ∧ V.cell? ⟨spb, 15, none⟩ = some (.int .i64 fd) ∧ V.cell? ⟨rb + 2, 0, none⟩ = some (.int .i64 (W : Int)) ∧ V.cell? ⟨rb + 2, 1, none⟩ = some (.int .i64 (H : Int)) ∧ V.cell? ⟨rb + 2, 2, none⟩ = some (.slice (some ⟨rb + 1, 0, none⟩) N N)) (first | exact SA.out | exact KW.out | go_keep | fail) (first | (go_at_call 37; refine SC.out.mono ?_; rintro e w7 ⟨gf, rfl, hwin, hsh, hkw⟩; rw [HN.out] at hwin; have KW := hide' (KK.out w7 hkw)) | fail)
 have R7 := hide' (show w7.heap[rb]? = some (.cells #[.int .i64 0, .int .i64 0, .slice none 0 0] 26 (0, 0)) from (hkw.keep rb (lt_of_block R6.out) (by omega)).trans R6.out)
 have BB := hide' (show Below w.heap.size w w7 from BW.out.trans ⟨hkw.os, hkw.tape, hkw.output, hkw.size, fun k hk => hkw.keep k (Nat.lt_of_lt_of_le hk BW.out.size) (by have := HRB.out; omega)⟩)
 have WN := hide' hwin
 have GF := hide' (show ∀ u v : Nat, u < W → v < H → gf (v * W + u) = F (x + (u : Int)) (y + (v : Int)) from fun u v hu hv => by
  have h := hsh u v hu hv
  dsimp only at h
  obtain ⟨q1, q2, q3⟩ := HV.out
  have e1 : ((u : Int) - X0) = (x + (u : Int)) - fr := by omega
  have e2 : ((v : Int) - Y0) = (y + (v : Int)) - fd := by omega
  rw [e1, e2, q1] at h
  have le := LE.out ((x + (u : Int)) - fr) ((y + (v : Int)) - fd)
  rw [q1] at le
  by_cases c : F (x + (u : Int)) (y + (v : Int)) = 1
  ·rw [h.1 c, c]
  ·rw [h.2 c]; show (0 : Int) = _; omega)
 clear o0 o1 o2
 have o := KW.out
 obtain ⟨_, _, _, _, _, o0, o1, o2⟩ := o
 have i0 := cell_of_row w7 rb 0 _ _ _ R7.out
 have i1 := cell_of_row w7 rb 1 _ _ _ R7.out
 have i2 := cell_of_row w7 rb 2 _ _ _ R7.out
 have j0 := frozen_of_row w7 rb 0 _ _ R7.out
 have j1 := frozen_of_row w7 rb 1 _ _ R7.out
 have j2 := frozen_of_row w7 rb 2 _ _ R7.out
 simp at i0 i1 i2
 clear s11 s12 s13 s14 s15 hkw hsh hwin a1 a2 SA HV LE SC mk KK
 go_wp2
 clear i0 i1 i2 j0 j1 j2 o0 o1 o2
 obtain ⟨X, hX⟩ : ∃ X, ((w7.setCell ⟨rb, 0, none⟩ (.int .i64 (W : Int))).setCell ⟨rb, 1, none⟩ (.int .i64 (H : Int))).setCell ⟨rb, 2, none⟩ (.slice (some ⟨rb + 1, 0, none⟩) N N) = X := ⟨_, rfl⟩
 have GX : X.heap[rb]? = some (.cells #[.int .i64 (W : Int), .int .i64 (H : Int), .slice (some ⟨rb + 1, 0, none⟩) N N] 26 (0, 0)) := by
  rw [← hX]
  have h0 := heap_setCell_same w7 rb 0 _ _ (.int .i64 (W : Int)) R7.out
  have h1 := heap_setCell_same _ rb 1 _ _ (.int .i64 (H : Int)) h0
  have h2 := heap_setCell_same _ rb 2 _ _ (.slice (some ⟨rb + 1, 0, none⟩) N N) h1
  simpa using h2
 have WX : WinA X (rb + 1) N gf := by
  rw [← hX]
  exact (Below.heap_setCell _ _ _ _ (by simp)).trans ((Below.heap_setCell _ _ _ _ (by simp)).trans ((Below.heap_setCell _ _ _ _ (by simp)).trans WN.out))
 have BX : Below w.heap.size w X := by
  rw [← hX]
  have := HRB.out
  exact ((BB.out.setCell (by simp; omega) _).setCell (by simp; omega) _).setCell (by simp; omega) _
 rw [hX]
 clear hX
 have i0 := cell_of_row X rb 0 _ _ _ GX
 have i1 := cell_of_row X rb 1 _ _ _ GX
 have i2 := cell_of_row X rb 2 _ _ _ GX
 simp at i0 i1 i2
 refine bodyPost_ret (v := .tuple #[.agg #[.int .i64 (W : Int), .int .i64 (H : Int), .slice (some ⟨rb + 1, 0, none⟩) N N], .nilIface]) (by simp [results, Tryz.results14, go_sem, i0, i1, i2]) rfl ?_
 exact ⟨rb + 1, gf, rfl, WX, GF.out, BX⟩
theorem At_out (W H : Nat) (a : Option Addr) (n c : Nat) (X Y : Int) (w : World) (h : ¬ inP W H X Y) :
  Calls Tryz.prog 66 #[.agg #[.int .i64 (W : Int), .int .i64 (H : Int), .slice a n c], .int .i64 X, .int .i64 Y] w fun e w' => e = .returned (.int .i64 0) ∧ Below w.heap.size w w' := by
 by_cases h1 : X < 0
 ·clear h
  go_enter Tryz.func66, Tryz.ntmps66
  go_wp2
  go_ret
  exact ⟨rfl, (Below.refl _ _).alloc (Nat.le_refl _) _⟩
 ·by_cases h2 : (W : Int) ≤ X
  ·clear h
   go_enter Tryz.func66, Tryz.ntmps66
   go_wp2
   go_ret
   exact ⟨rfl, (Below.refl _ _).alloc (Nat.le_refl _) _⟩
  ·by_cases h3 : Y < 0
   ·clear h
    go_enter Tryz.func66, Tryz.ntmps66
    go_wp2
    go_ret
    exact ⟨rfl, (Below.refl _ _).alloc (Nat.le_refl _) _⟩
   ·have h4 : (H : Int) ≤ Y := by unfold inP at h; omega
    clear h
    go_enter Tryz.func66, Tryz.ntmps66
    go_wp2
    go_ret
    exact ⟨rfl, (Below.refl _ _).alloc (Nat.le_refl _) _⟩
theorem shape_sidesH {W H : Int} {xs : List Int} (h : shapeF W H xs = 0) : ∃ Wn Hn : Nat, W = (Wn : Int) ∧ H = (Hn : Int) ∧ Wn ≤ 100 ∧ Hn ≤ 100 ∧ xs.length = Wn * Hn ∧ ∀ k, 0 ≤ xs.getD k 0 ∧ xs.getD k 0 ≤ 1 := by
 unfold shapeF at h
 split at h
 ·rename_i hs
  split at h
  ·rename_i hl
   split at h
   ·rename_i ha
    simp only [Bool.and_eq_true] at hs
    unfold sideB at hs
    simp at hs
    refine ⟨W.toNat, H.toNat, by omega, by omega, by omega, by omega, ?_, fun k => ?_⟩
    ·have e : ((W.toNat * H.toNat : Nat) : Int) = W * H := by rw [Int.natCast_mul, Int.toNat_of_nonneg (by omega), Int.toNat_of_nonneg (by omega)]
     omega
    ·by_cases q : k < xs.length
     ·have := List.all_eq_true.1 ha xs[k] (List.getElem_mem q)
      have e : xs.getD k 0 = xs[k] := by simp [List.getD, q]
      rw [e]
      unfold cellB at this
      simp at this
      omega
     ·have e : xs.getD k 0 = 0 := by simp [List.getD, q]
      rw [e]; omega
   ·omega
  ·omega
 ·omega
end Go.Proofs.YtemhcpldflcfbaaGreatDoor
