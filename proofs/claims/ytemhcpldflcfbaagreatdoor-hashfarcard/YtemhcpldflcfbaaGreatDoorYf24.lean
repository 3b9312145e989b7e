/-
  What the last text of this claim leans on, part 24: Hj7.
-/
import Derived.Test.YtemhcpldflcfbaaGreatDoorYf23
import Derived.Test.YtemhcpldflcfbaaGreatDoorYf22
namespace Go.Proofs.YtemhcpldflcfbaaGreatDoor
open Go.RowKit
set_option linter.unusedVariables false
set_option linter.unusedSimpArgs false
def n9 (x0 x1 x2 x3 x4 x5 x6 x7 x8 i : Nat) : Nat := if i = 0 then x0 else if i = 1 then x1 else if i = 2 then x2 else if i = 3 then x3 else if i = 4 then x4 else if i = 5 then x5 else if i = 6 then x6 else if i = 7 then x7 else x8
theorem index_nine (x0 x1 x2 x3 x4 x5 x6 x7 x8 i : Nat) (hi : i < 9) (w : World) : (Instr.index 225 (.agg #[.int .u64 (x0 : Int), .int .u64 (x1 : Int), .int .u64 (x2 : Int), .int .u64 (x3 : Int), .int .u64 (x4 : Int), .int .u64 (x5 : Int), .int .u64 (x6 : Int), .int .u64 (x7 : Int), .int .u64 (x8 : Int)]) (.int .i64 (i : Int))).run Tryz.prog w = .ok (.int .u64 ((n9 x0 x1 x2 x3 x4 x5 x6 x7 x8 i : Nat) : Int)) w := by
 match i, hi with
 | 0, _ => exact (show (Instr.index 225 (.agg #[.int .u64 (x0 : Int), .int .u64 (x1 : Int), .int .u64 (x2 : Int), .int .u64 (x3 : Int), .int .u64 (x4 : Int), .int .u64 (x5 : Int), .int .u64 (x6 : Int), .int .u64 (x7 : Int), .int .u64 (x8 : Int)]) (.int .i64 0)).run Tryz.prog w = .ok (.int .u64 (x0 : Int)) w by kernel_rfl)
 | 1, _ => exact (show (Instr.index 225 (.agg #[.int .u64 (x0 : Int), .int .u64 (x1 : Int), .int .u64 (x2 : Int), .int .u64 (x3 : Int), .int .u64 (x4 : Int), .int .u64 (x5 : Int), .int .u64 (x6 : Int), .int .u64 (x7 : Int), .int .u64 (x8 : Int)]) (.int .i64 1)).run Tryz.prog w = .ok (.int .u64 (x1 : Int)) w by kernel_rfl)
 | 2, _ => exact (show (Instr.index 225 (.agg #[.int .u64 (x0 : Int), .int .u64 (x1 : Int), .int .u64 (x2 : Int), .int .u64 (x3 : Int), .int .u64 (x4 : Int), .int .u64 (x5 : Int), .int .u64 (x6 : Int), .int .u64 (x7 : Int), .int .u64 (x8 : Int)]) (.int .i64 2)).run Tryz.prog w = .ok (.int .u64 (x2 : Int)) w by kernel_rfl)
 | 3, _ => exact (show (Instr.index 225 (.agg #[.int .u64 (x0 : Int), .int .u64 (x1 : Int), .int .u64 (x2 : Int), .int .u64 (x3 : Int), .int .u64 (x4 : Int), .int .u64 (x5 : Int), .int .u64 (x6 : Int), .int .u64 (x7 : Int), .int .u64 (x8 : Int)]) (.int .i64 3)).run Tryz.prog w = .ok (.int .u64 (x3 : Int)) w by kernel_rfl)
 | 4, _ => exact (show (Instr.index 225 (.agg #[.int .u64 (x0 : Int), .int .u64 (x1 : Int), .int .u64 (x2 : Int), .int .u64 (x3 : Int), .int .u64 (x4 : Int), .int .u64 (x5 : Int), .int .u64 (x6 : Int), .int .u64 (x7 : Int), .int .u64 (x8 : Int)]) (.int .i64 4)).run Tryz.prog w = .ok (.int .u64 (x4 : Int)) w by kernel_rfl)
 | 5, _ => exact (show (Instr.index 225 (.agg #[.int .u64 (x0 : Int), .int .u64 (x1 : Int), .int .u64 (x2 : Int), .int .u64 (x3 : Int), .int .u64 (x4 : Int), .int .u64 (x5 : Int), .int .u64 (x6 : Int), .int .u64 (x7 : Int), .int .u64 (x8 : Int)]) (.int .i64 5)).run Tryz.prog w = .ok (.int .u64 (x5 : Int)) w by kernel_rfl)
 | 6, _ => exact (show (Instr.index 225 (.agg #[.int .u64 (x0 : Int), .int .u64 (x1 : Int), .int .u64 (x2 : Int), .int .u64 (x3 : Int), .int .u64 (x4 : Int), .int .u64 (x5 : Int), .int .u64 (x6 : Int), .int .u64 (x7 : Int), .int .u64 (x8 : Int)]) (.int .i64 6)).run Tryz.prog w = .ok (.int .u64 (x6 : Int)) w by kernel_rfl)
 | 7, _ => exact (show (Instr.index 225 (.agg #[.int .u64 (x0 : Int), .int .u64 (x1 : Int), .int .u64 (x2 : Int), .int .u64 (x3 : Int), .int .u64 (x4 : Int), .int .u64 (x5 : Int), .int .u64 (x6 : Int), .int .u64 (x7 : Int), .int .u64 (x8 : Int)]) (.int .i64 7)).run Tryz.prog w = .ok (.int .u64 (x7 : Int)) w by kernel_rfl)
 | 8, _ => exact (show (Instr.index 225 (.agg #[.int .u64 (x0 : Int), .int .u64 (x1 : Int), .int .u64 (x2 : Int), .int .u64 (x3 : Int), .int .u64 (x4 : Int), .int .u64 (x5 : Int), .int .u64 (x6 : Int), .int .u64 (x7 : Int), .int .u64 (x8 : Int)]) (.int .i64 8)).run Tryz.prog w = .ok (.int .u64 (x8 : Int)) w by kernel_rfl)
theorem sx_nil {T : Nat → Nat} (h0 : T 0 = 0) (s u : Nat) : sxE T 0 0 0 0 s u = 0 := by
 have n0 : ∀ i, niE 0 0 0 0 i = 0 := fun i => by
  unfold niE betE
  rw [show besE 0 0 = 0 from rfl, show belE 0 0 = 0 from rfl]
  repeat (split; rfl)
  rfl
 have nN : ∀ i, sxN T 0 0 0 0 s i = 0 := fun i => by unfold sxN; rw [n0, inE_nil h0]
 have nM : ∀ i, sxM T 0 0 0 0 s u i = 0 := fun i => by
  unfold sxM
  rw [nN, nN, nN, nN, show fouE 0 0 0 0 = 0 from rfl, inE_nil h0]
 unfold sxE
 rw [nM, nM, nM, nM]
 rfl
theorem ni_lt {a b c d : Nat} (ha : a < 18446744073709551616) (hb : b < 18446744073709551616) (hc : c < 18446744073709551616) (hd : d < 18446744073709551616) (i : Nat) : niE a b c d i < 18446744073709551616 := by
 unfold niE
 have p1 := bes_lt a b
 have p2 := bes_lt c d
 have p3 := bel_lt (a := a) (b := c) ha
 have p4 := bel_lt (a := b) (b := d) hb
 have p5 := bet_lt a b c d
 repeat (split; assumption)
 assumption
theorem n9_ni (a b c d i : Nat) (hi : i < 9) : n9 a (besE a b) b (belE a c) (betE a b c d) (belE b d) c (besE c d) d i = niE a b c d i := by
 unfold n9 niE
 rfl
def n9P (T : Nat → Nat) (a b c d s i j : Nat) : Nat := if j < i then sxN T a b c d s j else niE a b c d j
set_option maxRecDepth 100000 in
set_option maxHeartbeats 6400000 in
theorem sixteen_any (tb a b c d s u : Nat) (T : Nat → Nat) (w : World) (ha : a < 18446744073709551616) (hb : b < 18446744073709551616) (hc : c < 18446744073709551616) (hd : d < 18446744073709551616) (hT : TtA w tb T) (h0 : T 0 = 0) (hs : s ≤ 2) (hu : u ≤ 2) (htb : tb < w.heap.size) : Calls Tryz.prog 97 #[.pointer (some ⟨tb, 0, none⟩), .agg #[.int .u64 (a : Int), .int .u64 (b : Int), .int .u64 (c : Int), .int .u64 (d : Int)], .agg #[.int .i64 (s : Int), .int .i64 (u : Int)]] w fun e w' => e = .returned (.int .u64 (sxE T a b c d s u : Int)) ∧ Below w.heap.size w w' := by
 obtain ⟨w1, hw1⟩ : ∃ x, w.alloc (.cells #[.int .u64 (a : Int), .int .u64 (b : Int), .int .u64 (c : Int), .int .u64 (d : Int)] 186) = x := ⟨_, rfl⟩
 have e1 : w1.heap[w.heap.size]? = some (.cells #[.int .u64 (a : Int), .int .u64 (b : Int), .int .u64 (c : Int), .int .u64 (d : Int)] 186 (0, 0)) := by rw [← hw1]; exact heap_alloc_new _ _
 have z1 : w1.heap.size = w.heap.size + 1 := by rw [← hw1]; simp
 have b1 : Below w.heap.size w w1 := by rw [← hw1]; exact (Below.refl _ _).alloc (Nat.le_refl _) _
 obtain ⟨w2, hw2⟩ : ∃ x, w1.alloc (.cells #[.int .i64 (s : Int), .int .i64 (u : Int)] 125) = x := ⟨_, rfl⟩
 have e2 : w2.heap[w.heap.size + 1]? = some (.cells #[.int .i64 (s : Int), .int .i64 (u : Int)] 125 (0, 0)) := by rw [← z1, ← hw2]; exact heap_alloc_new _ _
 have z2 : w2.heap.size = w.heap.size + 1 + 1 := by rw [← z1, ← hw2]; simp
 have b2 : Below w1.heap.size w1 w2 := by rw [← hw2]; exact (Below.refl _ _).alloc (Nat.le_refl _) _
 have g1 : w2.heap[w.heap.size]? = some (.cells #[.int .u64 (a : Int), .int .u64 (b : Int), .int .u64 (c : Int), .int .u64 (d : Int)] 186 (0, 0)) := (b2.block _ (by omega)).trans e1
 have c0 : w2.cell? ⟨w.heap.size, 0, none⟩ = some (.int .u64 (a : Int)) := by rw [cell_of_row _ _ _ _ _ _ g1]; rfl
 have c1 : w2.cell? ⟨w.heap.size, 1, none⟩ = some (.int .u64 (b : Int)) := by rw [cell_of_row _ _ _ _ _ _ g1]; rfl
 have c2 : w2.cell? ⟨w.heap.size, 2, none⟩ = some (.int .u64 (c : Int)) := by rw [cell_of_row _ _ _ _ _ _ g1]; rfl
 have c3 : w2.cell? ⟨w.heap.size, 3, none⟩ = some (.int .u64 (d : Int)) := by rw [cell_of_row _ _ _ _ _ _ g1]; rfl
 have BB := hide' (show Below w.heap.size w w2 from b1.trans (b2.mono (by omega)))
 have E2 := hide' e2
 have Z2 := hide' z2
 have HT := hide' hT
 have H0 := hide' h0
 have LT := hide' (And.intro ha (And.intro hb (And.intro hc hd)))
 have o1 : bits .or .u64 (a : Int) (b : Int) = ((a ||| b : Nat) : Int) := u64_or_nat a b ha hb
 have m1 : a ||| b < 2 ^ 64 := Nat.or_lt_two_pow ha hb
 have o2 : bits .or .u64 ((a ||| b : Nat) : Int) (c : Int) = ((a ||| b ||| c : Nat) : Int) := u64_or_nat _ c m1 hc
 have m2 : a ||| b ||| c < 2 ^ 64 := Nat.or_lt_two_pow m1 hc
 have o3 : bits .or .u64 ((a ||| b ||| c : Nat) : Int) (d : Int) = ((a ||| b ||| c ||| d : Nat) : Int) := u64_or_nat _ d m2 hd
 have OZ := hide' (fun (h : a ||| b ||| c ||| d = 0) => show a = 0 ∧ b = 0 ∧ c = 0 ∧ d = 0 from by
  have z : ∀ x y : Nat, x ||| y = 0 → x = 0 ∧ y = 0 := fun x y h => ⟨by have : x ≤ x ||| y := Nat.left_le_or; omega, by have : y ≤ x ||| y := Nat.right_le_or; omega⟩
  obtain ⟨h1, h4⟩ := z _ _ h
  obtain ⟨h2, h3⟩ := z _ _ h1
  obtain ⟨h5, h6⟩ := z _ _ h2
  exact ⟨h5, h6, h3, h4⟩)
 obtain ⟨p1, hp1⟩ : ∃ p, a ||| b = p := ⟨_, rfl⟩
 rw [hp1] at o1 o2 o3 OZ
 obtain ⟨p2, hp2⟩ : ∃ p, p1 ||| c = p := ⟨_, rfl⟩
 rw [hp2] at o2 o3 OZ
 obtain ⟨p3, hp3⟩ : ∃ p, p2 ||| d = p := ⟨_, rfl⟩
 rw [hp3] at o3 OZ
 have HW := hide' (And.intro hw1 hw2)
 clear hp1 hp2 hp3 m1 m2 hw1 hw2 e1 e2 b1 b2 z1 z2 g1 hT h0
 go_enter Tryz.func97, Tryz.ntmps97
 go_upto_region 1 with fail
 obtain ⟨q1, q2⟩ := HW.out
 rw [q1, q2]
 clear q1 q2 HW
 go_quiet (fail)
 have B3 := hide' (below_drewN BB.out nq)
 have E3 := hide' (show (w2.drewN nq).heap[w.heap.size + 1]? = some (.cells #[.int .i64 (s : Int), .int .i64 (u : Int)] 125 (0, 0)) from E2.out)
 have Z3 := hide' (show (w2.drewN nq).heap.size = w.heap.size + 1 + 1 from Z2.out)
 obtain ⟨w3, hw3⟩ : ∃ x, w2.drewN nq = x := ⟨_, rfl⟩
 rw [hw3] at B3 E3 Z3 ⊢
 clear hw3 c0 c1 c2 c3 BB E2 Z2
 by_cases z : p3 = 0
 ·obtain ⟨rfl, rfl, rfl, rfl⟩ := OZ.out z
  have E := hide' (sx_nil H0.out s u)
  subst z
  go_wp2
  go_ret
  exact ⟨by rw [E.out]; rfl, B3.out⟩
 ·have zb : ((p3 : Int) == 0) = false := by simp; omega
  clear OZ z
  have C1 := hide' (fun V => beside_any a b V ha hb)
  have C2 := hide' (fun V => below_anyH a c V ha hc)
  have C3 := hide' (fun V => between_any a b c d V ha hb hc hd)
  have C4 := hide' (fun V => below_anyH b d V hb hd)
  have C5 := hide' (fun V => beside_any c d V hc hd)
  have NI := hide' (fun i (hi : i < 9) => n9_ni a b c d i hi)
  obtain ⟨x1, hx1⟩ : ∃ x, besE a b = x := ⟨_, rfl⟩
  obtain ⟨x3, hx3⟩ : ∃ x, belE a c = x := ⟨_, rfl⟩
  obtain ⟨x4, hx4⟩ : ∃ x, betE a b c d = x := ⟨_, rfl⟩
  obtain ⟨x5, hx5⟩ : ∃ x, belE b d = x := ⟨_, rfl⟩
  obtain ⟨x7, hx7⟩ : ∃ x, besE c d = x := ⟨_, rfl⟩
  rw [hx1] at C1 NI
  rw [hx3] at C2 NI
  rw [hx4] at C3 NI
  rw [hx5] at C4 NI
  rw [hx7] at C5 NI
  clear hx1 hx3 hx4 hx5 hx7
  go_wp2_with fail
  refine (C1.out w3).mono ?_
  rintro o w4 ⟨rfl, rfl⟩
  clear o1 o2 o3
  go_wp2_with fail
  refine (C2.out w4).mono ?_
  rintro o w5 ⟨rfl, rfl⟩
  go_wp2_with fail
  refine (C3.out w5).mono ?_
  rintro o w6 ⟨rfl, rfl⟩
  go_wp2_with fail
  refine (C4.out w6).mono ?_
  rintro o w7 ⟨rfl, rfl⟩
  go_wp2_with fail
  refine (C5.out w7).mono ?_
  rintro o w8 ⟨rfl, rfl⟩
  clear C1 C2 C3 C4 C5
  go_upto_region 5 with fail
  have Z8 := Z3.out
  have A8 := hide' (show ArV (w8.alloc (.cells #[.int .u64 (a : Int), .int .u64 (x1 : Int), .int .u64 (b : Int), .int .u64 (x3 : Int), .int .u64 (x4 : Int), .int .u64 (x5 : Int), .int .u64 (c : Int), .int .u64 (x7 : Int), .int .u64 (d : Int)] 225)) w8.heap.size 9 225 (uQ (n9 a x1 b x3 x4 x5 c x7 d)) from heap_alloc_new w8 (.cells #[.int .u64 (a : Int), .int .u64 (x1 : Int), .int .u64 (b : Int), .int .u64 (x3 : Int), .int .u64 (x4 : Int), .int .u64 (x5 : Int), .int .u64 (c : Int), .int .u64 (x7 : Int), .int .u64 (d : Int)] 225))
  have P8 := hide' (show (w8.alloc (.cells #[.int .u64 (a : Int), .int .u64 (x1 : Int), .int .u64 (b : Int), .int .u64 (x3 : Int), .int .u64 (x4 : Int), .int .u64 (x5 : Int), .int .u64 (c : Int), .int .u64 (x7 : Int), .int .u64 (d : Int)] 225)).heap[w.heap.size + 1]? = some (.cells #[.int .i64 (s : Int), .int .i64 (u : Int)] 125 (0, 0)) from (heap_alloc_old _ _ (by omega)).trans E3.out)
  have B8 := hide' (B3.out.alloc B3.out.size (.cells #[.int .u64 (a : Int), .int .u64 (x1 : Int), .int .u64 (b : Int), .int .u64 (x3 : Int), .int .u64 (x4 : Int), .int .u64 (x5 : Int), .int .u64 (c : Int), .int .u64 (x7 : Int), .int .u64 (d : Int)] 225))
  obtain ⟨w9, hw9⟩ : ∃ x, w8.alloc (.cells #[.int .u64 (a : Int), .int .u64 (x1 : Int), .int .u64 (b : Int), .int .u64 (x3 : Int), .int .u64 (x4 : Int), .int .u64 (x5 : Int), .int .u64 (c : Int), .int .u64 (x7 : Int), .int .u64 (d : Int)] 225) = x := ⟨_, rfl⟩
  rw [hw9] at A8 P8 B8 ⊢
  obtain ⟨nb, hnb⟩ : ∃ x, w8.heap.size = x := ⟨_, rfl⟩
  rw [hnb] at A8 Z8 ⊢
  have A9 := A8
  have NB := hide' Z8
  clear hw9 hnb B3 E3 Z3 Z8
  have k0 : w9.cell? ⟨nb, 0, none⟩ = some (.int .u64 (a : Int)) := by rw [cell_of_row _ _ _ _ _ _ A9.out]; rfl
  have k1 : w9.cell? ⟨nb, 1, none⟩ = some (.int .u64 (x1 : Int)) := by rw [cell_of_row _ _ _ _ _ _ A9.out]; rfl
  have k2 : w9.cell? ⟨nb, 2, none⟩ = some (.int .u64 (b : Int)) := by rw [cell_of_row _ _ _ _ _ _ A9.out]; rfl
  have k3 : w9.cell? ⟨nb, 3, none⟩ = some (.int .u64 (x3 : Int)) := by rw [cell_of_row _ _ _ _ _ _ A9.out]; rfl
  have k4 : w9.cell? ⟨nb, 4, none⟩ = some (.int .u64 (x4 : Int)) := by rw [cell_of_row _ _ _ _ _ _ A9.out]; rfl
  have k5 : w9.cell? ⟨nb, 5, none⟩ = some (.int .u64 (x5 : Int)) := by rw [cell_of_row _ _ _ _ _ _ A9.out]; rfl
  have k6 : w9.cell? ⟨nb, 6, none⟩ = some (.int .u64 (c : Int)) := by rw [cell_of_row _ _ _ _ _ _ A9.out]; rfl
  have k7 : w9.cell? ⟨nb, 7, none⟩ = some (.int .u64 (x7 : Int)) := by rw [cell_of_row _ _ _ _ _ _ A9.out]; rfl
  have k8 : w9.cell? ⟨nb, 8, none⟩ = some (.int .u64 (d : Int)) := by rw [cell_of_row _ _ _ _ _ _ A9.out]; rfl
  have IX := hide' (fun i (hi : i < 9) (V : World) => index_nine a x1 b x3 x4 x5 c x7 d i hi V)
  have NL := hide' (fun i => ni_lt ha hb hc hd (a := a) (b := b) (c := c) (d := d) i)
  have TTB := hide' (fun (V : World) (h : Below w.heap.size w V) => show TtA V tb T from ⟨fun c hc => (h.cell (p := ⟨tb, c, none⟩) htb).trans (HT.out.cell c hc), HT.out.low⟩)
  have IN := hide' (fun i (V : World) (h : Below w.heap.size w V) => show Calls Tryz.prog 123 #[.pointer (some ⟨tb, 0, none⟩), .int .u64 ((niE a b c d i : Nat) : Int), .int .i64 (s : Int)] V fun e w' => e = .returned (.int .u64 ((sxN T a b c d s i : Nat) : Int)) ∧ ∃ q, w' = V.drewN q from inner_any tb (niE a b c d i) s T V (NL.out i) (TTB.out V h) H0.out hs)
  go_wp2
  clear k0 k1 k2 k3 k4 k5 k6 k7 k8
  go_loopw [12, 13, 53] (fun _ _ iv wr => ∃ (i : Nat), iv = .int .i64 (i : Int) ∧ i ≤ 9 ∧ Hid (ArV wr nb 9 225 (uQ (n9P T a b c d s i))) ∧ Hid (wr.heap[w.heap.size + 1]? = some (.cells #[.int .i64 (s : Int), .int .i64 (u : Int)] 125 (0, 0))) ∧ Hid (Below w.heap.size w wr)) (fun _ _ iv _ => 9 - (intOf iv).toNat)
  case atStart => exact ⟨0, rfl, by omega, hide' (A9.out.ext fun k hk => by unfold uQ n9P; rw [if_neg (by omega), NI.out k hk]), P8, B8⟩
  case round =>
   clear A9 A8 P8 B8
   obtain ⟨i, rfl, hi, A10, P10, B10⟩ := hrel
   by_cases d9 : (i : Int) < 9
   ·have i9 : i < 9 := by omega
    have ii0 : (0 : Int) ≤ (i : Int) := by omega
    have ix := IX.out i i9 wr
    rw [NI.out i i9] at ix
    have IC := hide' (IN.out i wr B10.out)
    have pc : wr.cell? ⟨w.heap.size + 1, 0, none⟩ = some (.int .i64 (s : Int)) := by rw [cell_of_row _ _ _ _ _ _ P10.out]; rfl
    obtain ⟨nv, hnv⟩ : ∃ v, niE a b c d i = v := ⟨_, rfl⟩
    have nl := NL.out i
    rw [hnv] at ix IC nl
    have A11 := hide' (fun q => (ArV.keep (V' := wr.drewN q) A10.out rfl).set i (.int .u64 ((sxN T a b c d s i : Nat) : Int)))
    have SX := hide' (fun j => show (if j = i then sxN T a b c d s i else n9P T a b c d s i j) = n9P T a b c d s (i + 1) j from by
     unfold n9P
     by_cases e : j = i
     ·rw [if_pos e, if_pos (by omega), e]
     ·rw [if_neg e]
      by_cases e2 : j < i
      ·rw [if_pos e2, if_pos (by omega)]
      ·rw [if_neg e2, if_neg (by omega)])
    obtain ⟨sv, hsv⟩ : ∃ v, sxN T a b c d s i = v := ⟨_, rfl⟩
    rw [hsv] at IC A11 SX
    clear hnv hsv
    go_wp2_with fail
    refine IC.out.mono ?_
    rintro o w10 ⟨rfl, q, rfl⟩
    have A12 := hide' ((A11.out q).ext (f' := uQ (n9P T a b c d s (i + 1))) fun j _ => by unfold uQ; rw [← SX.out j]; split <;> rfl)
    have ck := (ArV.keep (V' := wr.drewN q) A10.out rfl).cell i9
    have fk := (ArV.keep (V' := wr.drewN q) A10.out rfl).frozen i
    have lk := (ArV.keep (V' := wr.drewN q) A10.out rfl).lt
    have P12 := hide' (fun v => show ((wr.drewN q).setCell ⟨nb, i, none⟩ v).heap[w.heap.size + 1]? = some (.cells #[.int .i64 (s : Int), .int .i64 (u : Int)] 125 (0, 0)) from (set_other (by have := NB.out; omega)).trans P10.out)
    have B12 := hide' (fun v => show Below w.heap.size w ((wr.drewN q).setCell ⟨nb, i, none⟩ v) from (below_drewN B10.out q).setCell (p := ⟨nb, i, none⟩) (by have := NB.out; show w.heap.size ≤ nb; omega) v)
    obtain ⟨V, hV⟩ : ∃ V, wr.drewN q = V := ⟨_, rfl⟩
    rw [hV] at A12 ck fk lk P12 B12 ⊢
    clear hV pc ix IC
    go_wp2
    exact ⟨⟨i + 1, by go_num, by omega, A12, hide' (P12.out _), hide' (B12.out _)⟩, by simp [intOf]; omega⟩
   ·obtain rfl : i = 9 := by omega
    have pc : wr.cell? ⟨w.heap.size + 1, 1, none⟩ = some (.int .i64 (u : Int)) := by rw [cell_of_row _ _ _ _ _ _ P10.out]; rfl
    have lk := A10.out.lt
    have k0 : wr.cell? ⟨nb, 0, none⟩ = some (.int .u64 ((sxN T a b c d s 0 : Nat) : Int)) := by rw [A10.out.cell (by decide)]; rfl
    have k1 : wr.cell? ⟨nb, 1, none⟩ = some (.int .u64 ((sxN T a b c d s 1 : Nat) : Int)) := by rw [A10.out.cell (by decide)]; rfl
    have k2 : wr.cell? ⟨nb, 2, none⟩ = some (.int .u64 ((sxN T a b c d s 2 : Nat) : Int)) := by rw [A10.out.cell (by decide)]; rfl
    have k3 : wr.cell? ⟨nb, 3, none⟩ = some (.int .u64 ((sxN T a b c d s 3 : Nat) : Int)) := by rw [A10.out.cell (by decide)]; rfl
    have k4 : wr.cell? ⟨nb, 4, none⟩ = some (.int .u64 ((sxN T a b c d s 4 : Nat) : Int)) := by rw [A10.out.cell (by decide)]; rfl
    have k5 : wr.cell? ⟨nb, 5, none⟩ = some (.int .u64 ((sxN T a b c d s 5 : Nat) : Int)) := by rw [A10.out.cell (by decide)]; rfl
    have k6 : wr.cell? ⟨nb, 6, none⟩ = some (.int .u64 ((sxN T a b c d s 6 : Nat) : Int)) := by rw [A10.out.cell (by decide)]; rfl
    have k7 : wr.cell? ⟨nb, 7, none⟩ = some (.int .u64 ((sxN T a b c d s 7 : Nat) : Int)) := by rw [A10.out.cell (by decide)]; rfl
    have k8 : wr.cell? ⟨nb, 8, none⟩ = some (.int .u64 ((sxN T a b c d s 8 : Nat) : Int)) := by rw [A10.out.cell (by decide)]; rfl
    have F0 := hide' (fun V => fours_any (sxN T a b c d s 0) (sxN T a b c d s 1) (sxN T a b c d s 3) (sxN T a b c d s 4) V (inE_mk _ _ _) (inE_mk _ _ _) (inE_mk _ _ _) (inE_mk _ _ _))
    have F1 := hide' (fun V => fours_any (sxN T a b c d s 1) (sxN T a b c d s 2) (sxN T a b c d s 4) (sxN T a b c d s 5) V (inE_mk _ _ _) (inE_mk _ _ _) (inE_mk _ _ _) (inE_mk _ _ _))
    have F2 := hide' (fun V => fours_any (sxN T a b c d s 3) (sxN T a b c d s 4) (sxN T a b c d s 6) (sxN T a b c d s 7) V (inE_mk _ _ _) (inE_mk _ _ _) (inE_mk _ _ _) (inE_mk _ _ _))
    have F3 := hide' (fun V => fours_any (sxN T a b c d s 4) (sxN T a b c d s 5) (sxN T a b c d s 7) (sxN T a b c d s 8) V (inE_mk _ _ _) (inE_mk _ _ _) (inE_mk _ _ _) (inE_mk _ _ _))
    have G0 := hide' (fun V (hV : TtA V tb T) => show Calls Tryz.prog 123 #[.pointer (some ⟨tb, 0, none⟩), .int .u64 ((fouE (sxN T a b c d s 0) (sxN T a b c d s 1) (sxN T a b c d s 3) (sxN T a b c d s 4) : Nat) : Int), .int .i64 (u : Int)] V fun e w' => e = .returned (.int .u64 ((sxM T a b c d s u 0 : Nat) : Int)) ∧ ∃ q, w' = V.drewN q from inner_any tb (fouE (sxN T a b c d s 0) (sxN T a b c d s 1) (sxN T a b c d s 3) (sxN T a b c d s 4)) u T V (fou_lt (inE_mk _ _ _) (inE_mk _ _ _) (inE_mk _ _ _) (inE_mk _ _ _)) hV H0.out hu)
    have G1 := hide' (fun V (hV : TtA V tb T) => show Calls Tryz.prog 123 #[.pointer (some ⟨tb, 0, none⟩), .int .u64 ((fouE (sxN T a b c d s 1) (sxN T a b c d s 2) (sxN T a b c d s 4) (sxN T a b c d s 5) : Nat) : Int), .int .i64 (u : Int)] V fun e w' => e = .returned (.int .u64 ((sxM T a b c d s u 1 : Nat) : Int)) ∧ ∃ q, w' = V.drewN q from inner_any tb (fouE (sxN T a b c d s 1) (sxN T a b c d s 2) (sxN T a b c d s 4) (sxN T a b c d s 5)) u T V (fou_lt (inE_mk _ _ _) (inE_mk _ _ _) (inE_mk _ _ _) (inE_mk _ _ _)) hV H0.out hu)
    have G2 := hide' (fun V (hV : TtA V tb T) => show Calls Tryz.prog 123 #[.pointer (some ⟨tb, 0, none⟩), .int .u64 ((fouE (sxN T a b c d s 3) (sxN T a b c d s 4) (sxN T a b c d s 6) (sxN T a b c d s 7) : Nat) : Int), .int .i64 (u : Int)] V fun e w' => e = .returned (.int .u64 ((sxM T a b c d s u 2 : Nat) : Int)) ∧ ∃ q, w' = V.drewN q from inner_any tb (fouE (sxN T a b c d s 3) (sxN T a b c d s 4) (sxN T a b c d s 6) (sxN T a b c d s 7)) u T V (fou_lt (inE_mk _ _ _) (inE_mk _ _ _) (inE_mk _ _ _) (inE_mk _ _ _)) hV H0.out hu)
    have G3 := hide' (fun V (hV : TtA V tb T) => show Calls Tryz.prog 123 #[.pointer (some ⟨tb, 0, none⟩), .int .u64 ((fouE (sxN T a b c d s 4) (sxN T a b c d s 5) (sxN T a b c d s 7) (sxN T a b c d s 8) : Nat) : Int), .int .i64 (u : Int)] V fun e w' => e = .returned (.int .u64 ((sxM T a b c d s u 3 : Nat) : Int)) ∧ ∃ q, w' = V.drewN q from inner_any tb (fouE (sxN T a b c d s 4) (sxN T a b c d s 5) (sxN T a b c d s 7) (sxN T a b c d s 8)) u T V (fou_lt (inE_mk _ _ _) (inE_mk _ _ _) (inE_mk _ _ _) (inE_mk _ _ _)) hV H0.out hu)
    have FE := hide' (fun V => show Calls Tryz.prog 124 #[.int .u64 ((sxM T a b c d s u 0 : Nat) : Int), .int .u64 ((sxM T a b c d s u 1 : Nat) : Int), .int .u64 ((sxM T a b c d s u 2 : Nat) : Int), .int .u64 ((sxM T a b c d s u 3 : Nat) : Int)] V fun e w' => e = .returned (.int .u64 ((sxE T a b c d s u : Nat) : Int)) ∧ w' = V from fours_any _ _ _ _ V (inE_mk _ _ _) (inE_mk _ _ _) (inE_mk _ _ _) (inE_mk _ _ _))
    obtain ⟨y0, hy0⟩ : ∃ y, sxN T a b c d s 0 = y := ⟨_, rfl⟩
    obtain ⟨y1, hy1⟩ : ∃ y, sxN T a b c d s 1 = y := ⟨_, rfl⟩
    obtain ⟨y2, hy2⟩ : ∃ y, sxN T a b c d s 2 = y := ⟨_, rfl⟩
    obtain ⟨y3, hy3⟩ : ∃ y, sxN T a b c d s 3 = y := ⟨_, rfl⟩
    obtain ⟨y4, hy4⟩ : ∃ y, sxN T a b c d s 4 = y := ⟨_, rfl⟩
    obtain ⟨y5, hy5⟩ : ∃ y, sxN T a b c d s 5 = y := ⟨_, rfl⟩
    obtain ⟨y6, hy6⟩ : ∃ y, sxN T a b c d s 6 = y := ⟨_, rfl⟩
    obtain ⟨y7, hy7⟩ : ∃ y, sxN T a b c d s 7 = y := ⟨_, rfl⟩
    obtain ⟨y8, hy8⟩ : ∃ y, sxN T a b c d s 8 = y := ⟨_, rfl⟩
    rw [hy0] at k0
    rw [hy1] at k1
    rw [hy2] at k2
    rw [hy3] at k3
    rw [hy4] at k4
    rw [hy5] at k5
    rw [hy6] at k6
    rw [hy7] at k7
    rw [hy8] at k8
    rw [hy0, hy1, hy3, hy4] at F0 G0
    obtain ⟨f0, hf0⟩ : ∃ f, fouE y0 y1 y3 y4 = f := ⟨_, rfl⟩
    rw [hf0] at F0 G0
    obtain ⟨m0, hm0⟩ : ∃ f, sxM T a b c d s u 0 = f := ⟨_, rfl⟩
    rw [hm0] at G0 FE
    rw [hy1, hy2, hy4, hy5] at F1 G1
    obtain ⟨f1, hf1⟩ : ∃ f, fouE y1 y2 y4 y5 = f := ⟨_, rfl⟩
    rw [hf1] at F1 G1
    obtain ⟨m1, hm1⟩ : ∃ f, sxM T a b c d s u 1 = f := ⟨_, rfl⟩
    rw [hm1] at G1 FE
    rw [hy3, hy4, hy6, hy7] at F2 G2
    obtain ⟨f2, hf2⟩ : ∃ f, fouE y3 y4 y6 y7 = f := ⟨_, rfl⟩
    rw [hf2] at F2 G2
    obtain ⟨m2, hm2⟩ : ∃ f, sxM T a b c d s u 2 = f := ⟨_, rfl⟩
    rw [hm2] at G2 FE
    rw [hy4, hy5, hy7, hy8] at F3 G3
    obtain ⟨f3, hf3⟩ : ∃ f, fouE y4 y5 y7 y8 = f := ⟨_, rfl⟩
    rw [hf3] at F3 G3
    obtain ⟨m3, hm3⟩ : ∃ f, sxM T a b c d s u 3 = f := ⟨_, rfl⟩
    rw [hm3] at G3 FE
    obtain ⟨r, hr⟩ : ∃ f, sxE T a b c d s u = f := ⟨_, rfl⟩
    rw [hr] at FE
    have HR := hide' hr
    clear hy0 hy1 hy2 hy3 hy4 hy5 hy6 hy7 hy8 hf0 hm0 hf1 hm1 hf2 hm2 hf3 hm3 hr
    have TQ := hide' (fun q => TTB.out (wr.drewN q) (below_drewN B10.out q))
    go_upto_region 10 with fail
    go_quiet (first | (go_at_call_of 124 (Value.int .u64 (y0 : Int)); exact Calls.quiet_of_same (F0.out _)) | (go_at_call_of 124 (Value.int .u64 (y1 : Int)); exact Calls.quiet_of_same (F1.out _)) | (go_at_call_of 124 (Value.int .u64 (y3 : Int)); exact Calls.quiet_of_same (F2.out _)) | (go_at_call_of 124 (Value.int .u64 (y4 : Int)); exact Calls.quiet_of_same (F3.out _)) | (go_at_call_of 124 (Value.int .u64 (m0 : Int)); exact Calls.quiet_of_same (FE.out _)) | (go_at_call_of 123 (Value.int .u64 (f0 : Int)); exact Calls.quiet_of (G0.out _ (TQ.out _))) | (go_at_call_of 123 (Value.int .u64 (f1 : Int)); exact Calls.quiet_of (G1.out _ (TQ.out _))) | (go_at_call_of 123 (Value.int .u64 (f2 : Int)); exact Calls.quiet_of (G2.out _ (TQ.out _))) | (go_at_call_of 123 (Value.int .u64 (f3 : Int)); exact Calls.quiet_of (G3.out _ (TQ.out _))))
    have BF := hide' (below_drewN B10.out nq)
    obtain ⟨V, hV⟩ : ∃ V, wr.drewN nq = V := ⟨_, rfl⟩
    rw [hV] at BF ⊢
    go_wp2
    go_ret
    exact ⟨by rw [HR.out]; rfl, BF.out⟩
end Go.Proofs.YtemhcpldflcfbaaGreatDoor
