/-
  What the last text of this claim leans on, part 11: Bka.
-/
import Derived.Test.YtfeddccbhmbkmaaDoorZr10
import Derived.Test.YtfeddccbhmbkmaaDoorZr3
namespace Go.Proofs.YtfeddccbhmbkmaaDoor
open Go.RowKit
set_option linter.unusedVariables false
/-- A block's number, turned by a quarter. -/
def qtrN (n : Nat) : Nat := dg n 2 + 2 * dg n 0 + 4 * dg n 3 + 8 * dg n 1
theorem qtrN_lt (n : Nat) : qtrN n < 16 := by unfold qtrN dg; omega
theorem num16 {n : Nat} (h : n < 16) : n = dg n 0 + 2 * dg n 1 + 4 * dg n 2 + 8 * dg n 3 := by unfold dg; omega
theorem qtr_eq {m n : Nat} (hm : m < 16) : (dg m 0 = dg n 2 ∧ dg m 1 = dg n 0 ∧ dg m 2 = dg n 3 ∧ dg m 3 = dg n 1) ↔ m = qtrN n := by
  have e := num16 hm
  constructor
  · rintro ⟨a, b, c, d⟩
    unfold qtrN
    omega
  · intro h
    have l0 := dg_le n 0
    have l1 := dg_le n 1
    have l2 := dg_le n 2
    have l3 := dg_le n 3
    have k0 := dg_le m 0
    have k1 := dg_le m 1
    have k2 := dg_le m 2
    have k3 := dg_le m 3
    unfold qtrN at h
    omega
def turnB (tv : Nat → Nat) : Bool := (List.range 16).all fun j => tv (qtrN j) == qtrN (tv j)
theorem turn_true {tv : Nat → Nat} (h : ∀ j, j < 16 → tv (qtrN j) = qtrN (tv j)) : turnB tv = true := by
  unfold turnB
  rw [List.all_eq_true]
  intro j hj
  rw [h j (List.mem_range.1 hj)]; simp
theorem turn_false {tv : Nat → Nat} {i : Nat} (hi : i < 16) (h : tv (qtrN i) ≠ qtrN (tv i)) : turnB tv = false := by
  cases hk : turnB tv with
  | false => rfl
  | true =>
    unfold turnB at hk
    have := List.all_eq_true.1 hk i (List.mem_range.2 hi)
    simp at this
    exact absurd this h
theorem blk_eq (a b c d a' b' c' d' : Int) (w : World) : (Op.equalIn 10000 124 (.agg #[.int .i64 a, .int .i64 b, .int .i64 c, .int .i64 d]) (.agg #[.int .i64 a', .int .i64 b', .int .i64 c', .int .i64 d'])).run Tryd.prog w = .ok (a == a' && (b == b' && (c == c' && d == d'))) w := by
  have := equal_ints (P := Tryd.prog) w 9998 (t := 124) (e := 3) (n := 4) (k := .i64) Tryd.underlying124 (i := (Tryd.prog.info? 3).getD default) (by kernel_rfl) (by kernel_rfl) Tryd.underlying3 #[.int .i64 a, .int .i64 b, .int .i64 c, .int .i64 d] #[.int .i64 a', .int .i64 b', .int .i64 c', .int .i64 d'] (fun j => if j = 0 then a else if j = 1 then b else if j = 2 then c else d) (fun j => if j = 0 then a' else if j = 1 then b' else if j = 2 then c' else d') (fun j hj => by
    have : j = 0 ∨ j = 1 ∨ j = 2 ∨ j = 3 := by omega
    rcases this with rfl | rfl | rfl | rfl <;> exact ⟨rfl, rfl⟩)
  rw [this]
  simp [List.range, List.range.loop]
set_option maxRecDepth 100000 in
set_option maxHeartbeats 6400000 in
theorem turns_good (t : List Int) (a : Option Addr) (c : Nat) (tv : Nat → Nat) (w : World) (hP : ArgP w t a 16 c) (h0 : tabE t = 0) (hT : TbB w a tv) : Calls Tryd.prog 29 #[.slice a 16 c] w (FlagPost (turnB tv) w) := by
  have CC := hide' (Check_B t a 16 c w hP)
  rw [h0, show errOf 0 = .nilIface from rfl] at CC
  have BC := hide' (fun (V : World) (h : Below w.heap.size w V) => becomesB_any a c tv V (hT.below h))
  have HL := hide' hT.lt
  clear hP hT h0
  go_enter Tryd.func29, Tryd.ntmps29
  go_wp2_with fail
  refine CC.out.mono ?_
  rintro e w2 ⟨rfl, b2⟩
  have B2 := hide' b2
  clear b2
  go_wp2_with fail
  refine (BC.out w2 B2.out).mono ?_
  rintro e w3 ⟨rfl, b3⟩
  have B3 := hide' (B2.out.trans (b3.mono B2.out.size))
  obtain ⟨p5, hp5⟩ : ∃ p, w3.heap.size = p := ⟨_, rfl⟩
  obtain ⟨Zb, hZb⟩ : ∃ Z, arrF 64 (bkG tv) = Z := ⟨_, rfl⟩
  have hz : (w3.alloc (.cells #[.int .i64 0, .int .i64 0, .int .i64 0, .int .i64 0, .int .i64 0, .int .i64 0, .int .i64 0, .int .i64 0, .int .i64 0, .int .i64 0, .int .i64 0, .int .i64 0, .int .i64 0, .int .i64 0, .int .i64 0, .int .i64 0, .int .i64 0, .int .i64 0, .int .i64 0, .int .i64 0, .int .i64 0, .int .i64 0, .int .i64 0, .int .i64 0, .int .i64 0, .int .i64 0, .int .i64 0, .int .i64 0, .int .i64 0, .int .i64 0, .int .i64 0, .int .i64 0, .int .i64 0, .int .i64 0, .int .i64 0, .int .i64 0, .int .i64 0, .int .i64 0, .int .i64 0, .int .i64 0, .int .i64 0, .int .i64 0, .int .i64 0, .int .i64 0, .int .i64 0, .int .i64 0, .int .i64 0, .int .i64 0, .int .i64 0, .int .i64 0, .int .i64 0, .int .i64 0, .int .i64 0, .int .i64 0, .int .i64 0, .int .i64 0, .int .i64 0, .int .i64 0, .int .i64 0, .int .i64 0, .int .i64 0, .int .i64 0, .int .i64 0, .int .i64 0] 125)).heap[p5]? = some (.cells #[.int .i64 0, .int .i64 0, .int .i64 0, .int .i64 0, .int .i64 0, .int .i64 0, .int .i64 0, .int .i64 0, .int .i64 0, .int .i64 0, .int .i64 0, .int .i64 0, .int .i64 0, .int .i64 0, .int .i64 0, .int .i64 0, .int .i64 0, .int .i64 0, .int .i64 0, .int .i64 0, .int .i64 0, .int .i64 0, .int .i64 0, .int .i64 0, .int .i64 0, .int .i64 0, .int .i64 0, .int .i64 0, .int .i64 0, .int .i64 0, .int .i64 0, .int .i64 0, .int .i64 0, .int .i64 0, .int .i64 0, .int .i64 0, .int .i64 0, .int .i64 0, .int .i64 0, .int .i64 0, .int .i64 0, .int .i64 0, .int .i64 0, .int .i64 0, .int .i64 0, .int .i64 0, .int .i64 0, .int .i64 0, .int .i64 0, .int .i64 0, .int .i64 0, .int .i64 0, .int .i64 0, .int .i64 0, .int .i64 0, .int .i64 0, .int .i64 0, .int .i64 0, .int .i64 0, .int .i64 0, .int .i64 0, .int .i64 0, .int .i64 0, .int .i64 0] 125 (0, 0)) := by rw [← hp5]; exact heap_alloc_new _ _
  have zs : Zb.size = 64 := by rw [← hZb, arrF_size]
  have za : Zb.all (·.oneCell') = true := by rw [← hZb]; exact arrF_all _ _ (fun k _ => rfl)
  rw [hZb]
  obtain ⟨W5, hW5⟩ : ∃ V, (w3.alloc (.cells #[.int .i64 0, .int .i64 0, .int .i64 0, .int .i64 0, .int .i64 0, .int .i64 0, .int .i64 0, .int .i64 0, .int .i64 0, .int .i64 0, .int .i64 0, .int .i64 0, .int .i64 0, .int .i64 0, .int .i64 0, .int .i64 0, .int .i64 0, .int .i64 0, .int .i64 0, .int .i64 0, .int .i64 0, .int .i64 0, .int .i64 0, .int .i64 0, .int .i64 0, .int .i64 0, .int .i64 0, .int .i64 0, .int .i64 0, .int .i64 0, .int .i64 0, .int .i64 0, .int .i64 0, .int .i64 0, .int .i64 0, .int .i64 0, .int .i64 0, .int .i64 0, .int .i64 0, .int .i64 0, .int .i64 0, .int .i64 0, .int .i64 0, .int .i64 0, .int .i64 0, .int .i64 0, .int .i64 0, .int .i64 0, .int .i64 0, .int .i64 0, .int .i64 0, .int .i64 0, .int .i64 0, .int .i64 0, .int .i64 0, .int .i64 0, .int .i64 0, .int .i64 0, .int .i64 0, .int .i64 0, .int .i64 0, .int .i64 0, .int .i64 0, .int .i64 0] 125)).setRow p5 Zb = V := ⟨_, rfl⟩
  have G5 := hide' (show W5.heap[p5]? = some (.cells (arrF 64 (bkG tv)) 125 (0, 0)) by rw [← hW5, hZb]; exact setRow_heap _ _ _ _ _ _ hz)
  have B5 := hide' (show Below w.heap.size w W5 by rw [← hW5]; exact below_setRow (B3.out.alloc B3.out.size _) (by rw [← hp5]; exact B3.out.size) _)
  clear b3 hZb
  go_wp2_with (first
    | (refine wpList_store_row rfl 125 _ _ rfl p5 Zb rfl rfl 125 _ hz (by rw [zs]; kernel_rfl) (by rw [zs]; rfl) za ?_; rw [hW5]))
  clear hW5 hz zs za hp5
  go_loopw [15] (fun iv wr => ∃ (i : Nat), iv = .int .i64 (i : Int) ∧ i ≤ 16 ∧ Hid (Below w.heap.size w wr) ∧ Hid (wr.heap[p5]? = some (.cells (arrF 64 (bkG tv)) 125 (0, 0))) ∧ Hid (∀ j, j < i → tv (qtrN j) = qtrN (tv j))) (fun iv _ => 16 - (intOf iv).toNat)
  case atStart => exact ⟨0, rfl, by omega, B5, G5, hide' (fun j h => by omega)⟩
  case round =>
    obtain ⟨i, rfl, hi, HB, HG, HA⟩ := hrel
    by_cases d : (i : Int) < 16
    · have il : i < 16 := by omega
      obtain ⟨qn, hqn⟩ : ∃ q, qtrN i = q := ⟨_, rfl⟩
      have ql : qn < 16 := by rw [← hqn]; exact qtrN_lt i
      have qli : (qn : Int) < 16 := by omega
      obtain ⟨y0, hy0⟩ : ∃ y, dg (tv i) 0 = y := ⟨_, rfl⟩
      obtain ⟨x0, hx0⟩ : ∃ y, dg (tv qn) 0 = y := ⟨_, rfl⟩
      obtain ⟨z0, hz0⟩ : ∃ y, dg i 0 = y := ⟨_, rfl⟩
      have zl0 : z0 ≤ 1 := by rw [← hz0]; exact dg_le _ _
      obtain ⟨y1, hy1⟩ : ∃ y, dg (tv i) 1 = y := ⟨_, rfl⟩
      obtain ⟨x1, hx1⟩ : ∃ y, dg (tv qn) 1 = y := ⟨_, rfl⟩
      obtain ⟨z1, hz1⟩ : ∃ y, dg i 1 = y := ⟨_, rfl⟩
      have zl1 : z1 ≤ 1 := by rw [← hz1]; exact dg_le _ _
      obtain ⟨y2, hy2⟩ : ∃ y, dg (tv i) 2 = y := ⟨_, rfl⟩
      obtain ⟨x2, hx2⟩ : ∃ y, dg (tv qn) 2 = y := ⟨_, rfl⟩
      obtain ⟨z2, hz2⟩ : ∃ y, dg i 2 = y := ⟨_, rfl⟩
      have zl2 : z2 ≤ 1 := by rw [← hz2]; exact dg_le _ _
      obtain ⟨y3, hy3⟩ : ∃ y, dg (tv i) 3 = y := ⟨_, rfl⟩
      obtain ⟨x3, hx3⟩ : ∃ y, dg (tv qn) 3 = y := ⟨_, rfl⟩
      obtain ⟨z3, hz3⟩ : ∃ y, dg i 3 = y := ⟨_, rfl⟩
      have zl3 : z3 ≤ 1 := by rw [← hz3]; exact dg_le _ _
      have OC := hide' (fun V => show Calls Tryd.prog 66 #[.int .i64 (i : Int)] V (fun e w' => e = .returned (.agg #[.int .i64 (z0 : Int), .int .i64 (z1 : Int), .int .i64 (z2 : Int), .int .i64 (z3 : Int)]) ∧ Below V.heap.size V w') from by
        have t := blockOf_any i V il
        unfold blkV at t
        rw [← dg_0, ← dg_1, ← dg_2, ← dg_3 i il, hz0, hz1, hz2, hz3] at t
        exact t)
      have TZ := hide' (fun V => turned_blk (z0 : Int) (z1 : Int) (z2 : Int) (z3 : Int) V)
      have TY := hide' (fun V => turned_blk (y0 : Int) (y1 : Int) (y2 : Int) (y3 : Int) V)
      have NQ := hide' (fun V => show Calls Tryd.prog 69 #[.agg #[.int .i64 (z2 : Int), .int .i64 (z0 : Int), .int .i64 (z3 : Int), .int .i64 (z1 : Int)]] V (fun e w' => e = .returned (.int .i64 (qn : Int)) ∧ Below V.heap.size V w') from by
        have t := number_any z2 z0 z3 z1 V zl2 zl0 zl3 zl1
        rw [show z2 + 2 * z0 + 4 * z3 + 8 * z1 = qn by rw [← hqn]; unfold qtrN; rw [hz0, hz1, hz2, hz3]] at t
        exact t)
      have EQ := fun w => blk_eq (x0 : Int) (x1 : Int) (x2 : Int) (x3 : Int) (y2 : Int) (y0 : Int) (y3 : Int) (y1 : Int) w
      obtain ⟨q, hq⟩ : ∃ q, ((x0 : Int) == (y2 : Int) && ((x1 : Int) == (y0 : Int) && ((x2 : Int) == (y3 : Int) && (x3 : Int) == (y1 : Int)))) = q := ⟨_, rfl⟩
      rw [hq] at EQ
      have QI := hide' (show q = true ↔ tv (qtrN i) = qtrN (tv i) from by
        rw [← qtr_eq (HL.out (qtrN i) (qtrN_lt i)), hqn, hx0, hx1, hx2, hx3, hy0, hy1, hy2, hy3, ← hq]
        simp only [Bool.and_eq_true, beq_iff_eq]
        omega)
      have SW := hide' (fun (P7 : Nat) (V : World) (h : V.heap[p5]? = some (.cells (arrF 64 (bkG tv)) 125 (0, 0))) (h7 : V.heap[P7]? = some (.cells #[.int .i64 (z2 : Int), .int .i64 (z0 : Int), .int .i64 (z3 : Int), .int .i64 (z1 : Int)] 124 (0, 0))) => show V.cell? ⟨P7, 0, none⟩ = some (.int .i64 (z2 : Int)) ∧ V.cell? ⟨P7, 1, none⟩ = some (.int .i64 (z0 : Int)) ∧ V.cell? ⟨P7, 2, none⟩ = some (.int .i64 (z3 : Int)) ∧ V.cell? ⟨P7, 3, none⟩ = some (.int .i64 (z1 : Int)) ∧ V.cell? ⟨p5, qn * 4, none⟩ = some (.int .i64 (x0 : Int)) ∧ V.cell? ⟨p5, qn * 4 + 1, none⟩ = some (.int .i64 (x1 : Int)) ∧ V.cell? ⟨p5, qn * 4 + 2, none⟩ = some (.int .i64 (x2 : Int)) ∧ V.cell? ⟨p5, qn * 4 + 3, none⟩ = some (.int .i64 (x3 : Int)) ∧ V.cell? ⟨p5, i * 4, none⟩ = some (.int .i64 (y0 : Int)) ∧ V.cell? ⟨p5, i * 4 + 1, none⟩ = some (.int .i64 (y1 : Int)) ∧ V.cell? ⟨p5, i * 4 + 2, none⟩ = some (.int .i64 (y2 : Int)) ∧ V.cell? ⟨p5, i * 4 + 3, none⟩ = some (.int .i64 (y3 : Int)) from
        ⟨cell_of_row V _ 0 _ _ _ h7, cell_of_row V _ 1 _ _ _ h7, cell_of_row V _ 2 _ _ _ h7, cell_of_row V _ 3 _ _ _ h7, by rw [cell_of_row V _ _ _ _ _ h, arrF_get _ (by omega), bkG, show (qn * 4) / 4 = qn by omega, show (qn * 4) % 4 = 0 by omega, hx0], by rw [cell_of_row V _ _ _ _ _ h, arrF_get _ (by omega), bkG, show (qn * 4 + 1) / 4 = qn by omega, show (qn * 4 + 1) % 4 = 1 by omega, hx1], by rw [cell_of_row V _ _ _ _ _ h, arrF_get _ (by omega), bkG, show (qn * 4 + 2) / 4 = qn by omega, show (qn * 4 + 2) % 4 = 2 by omega, hx2], by rw [cell_of_row V _ _ _ _ _ h, arrF_get _ (by omega), bkG, show (qn * 4 + 3) / 4 = qn by omega, show (qn * 4 + 3) % 4 = 3 by omega, hx3], by rw [cell_of_row V _ _ _ _ _ h, arrF_get _ (by omega), bkG, show (i * 4) / 4 = i by omega, show (i * 4) % 4 = 0 by omega, hy0], by rw [cell_of_row V _ _ _ _ _ h, arrF_get _ (by omega), bkG, show (i * 4 + 1) / 4 = i by omega, show (i * 4 + 1) % 4 = 1 by omega, hy1], by rw [cell_of_row V _ _ _ _ _ h, arrF_get _ (by omega), bkG, show (i * 4 + 2) / 4 = i by omega, show (i * 4 + 2) % 4 = 2 by omega, hy2], by rw [cell_of_row V _ _ _ _ _ h, arrF_get _ (by omega), bkG, show (i * 4 + 3) / 4 = i by omega, show (i * 4 + 3) % 4 = 3 by omega, hy3]⟩)
      clear hq hqn hx0 hy0 hz0 zl0 hx1 hy1 hz1 zl1 hx2 hy2 hz2 zl2 hx3 hy3 hz3 zl3
      go_wp2_with fail
      refine (OC.out wr).mono ?_
      rintro e' u1 ⟨rfl, b1⟩
      have D1 := hide' (HB.out.trans (b1.mono HB.out.size))
      have H1 := hide' ((b1.block _ (lt_of_block HG.out)).trans HG.out)
      clear b1
      go_wp2_with fail
      refine (TZ.out u1).mono ?_
      rintro e' u2 ⟨rfl, b2⟩
      have D2 := hide' (D1.out.trans (b2.mono D1.out.size))
      have H2 := hide' ((b2.block _ (lt_of_block H1.out)).trans H1.out)
      clear b2 D1 H1
      obtain ⟨X, hX⟩ : ∃ X, u2.alloc (.cells #[.int .i64 (z2 : Int), .int .i64 (z0 : Int), .int .i64 (z3 : Int), .int .i64 (z1 : Int)] 124) = X := ⟨_, rfl⟩
      obtain ⟨P7, hP7⟩ : ∃ P, u2.heap.size = P := ⟨_, rfl⟩
      have GX := hide' (show X.drew.heap[P7]? = some (.cells #[.int .i64 (z2 : Int), .int .i64 (z0 : Int), .int .i64 (z3 : Int), .int .i64 (z1 : Int)] 124 (0, 0)) by rw [← hX]; exact heap_atX u2 _ _ hP7.symm)
      have HX := hide' (show X.drew.heap[p5]? = some (.cells (arrF 64 (bkG tv)) 125 (0, 0)) by rw [← hX]; exact (Below.heap_alloc u2 _ _ (lt_of_block H2.out)).trans H2.out)
      have BD := hide' (show Below w.heap.size w X.drew by
        have b : Below w.heap.size w X := by rw [← hX]; exact D2.out.alloc D2.out.size _
        exact ⟨b.os, b.tape, b.output, b.size, b.block⟩)
      have SD := hide' (SW.out P7 X.drew HX.out GX.out)
      go_wp2
      try rw [hX]
      try rw [hP7]
      clear hX hP7
      go_region_held3 (fun V => V.cell? ⟨P7, 0, none⟩ = some (.int .i64 (z2 : Int)) ∧ V.cell? ⟨P7, 1, none⟩ = some (.int .i64 (z0 : Int)) ∧ V.cell? ⟨P7, 2, none⟩ = some (.int .i64 (z3 : Int)) ∧ V.cell? ⟨P7, 3, none⟩ = some (.int .i64 (z1 : Int)) ∧ V.cell? ⟨p5, qn * 4, none⟩ = some (.int .i64 (x0 : Int)) ∧ V.cell? ⟨p5, qn * 4 + 1, none⟩ = some (.int .i64 (x1 : Int)) ∧ V.cell? ⟨p5, qn * 4 + 2, none⟩ = some (.int .i64 (x2 : Int)) ∧ V.cell? ⟨p5, qn * 4 + 3, none⟩ = some (.int .i64 (x3 : Int)) ∧ V.cell? ⟨p5, i * 4, none⟩ = some (.int .i64 (y0 : Int)) ∧ V.cell? ⟨p5, i * 4 + 1, none⟩ = some (.int .i64 (y1 : Int)) ∧ V.cell? ⟨p5, i * 4 + 2, none⟩ = some (.int .i64 (y2 : Int)) ∧ V.cell? ⟨p5, i * 4 + 3, none⟩ = some (.int .i64 (y3 : Int))) (first | exact SW.out P7 _ h4 g4 | exact SW.out P7 _ h3 g3 | exact SD.out | fail)
        (first
          | (go_at_call 69; refine (NQ.out _).mono ?_; rintro e' U3 ⟨rfl, b3⟩; have D3 := hide' (show Below w.heap.size w U3 from by first | exact D4.out.trans (b3.mono D4.out.size) | exact BD.out.trans (b3.mono BD.out.size)); have g3 : U3.heap[P7]? = some (.cells #[.int .i64 (z2 : Int), .int .i64 (z0 : Int), .int .i64 (z3 : Int), .int .i64 (z1 : Int)] 124 (0, 0)) := (by first | exact (b3.block _ (lt_of_block g4)).trans g4 | exact (b3.block _ (lt_of_block GX.out)).trans GX.out); have h3 : U3.heap[p5]? = some (.cells (arrF 64 (bkG tv)) 125 (0, 0)) := (by first | exact (b3.block _ (lt_of_block h4)).trans h4 | exact (b3.block _ (lt_of_block HX.out)).trans HX.out); clear b3)
          | (go_at_call 68; refine (TY.out _).mono ?_; rintro e' U4 ⟨rfl, b4⟩; have D4 := hide' (show Below w.heap.size w U4 from by first | exact D3.out.trans (b4.mono D3.out.size) | exact BD.out.trans (b4.mono BD.out.size)); have g4 : U4.heap[P7]? = some (.cells #[.int .i64 (z2 : Int), .int .i64 (z0 : Int), .int .i64 (z3 : Int), .int .i64 (z1 : Int)] 124 (0, 0)) := (by first | exact (b4.block _ (lt_of_block g3)).trans g3 | exact (b4.block _ (lt_of_block GX.out)).trans GX.out); have h4 : U4.heap[p5]? = some (.cells (arrF 64 (bkG tv)) 125 (0, 0)) := (by first | exact (b4.block _ (lt_of_block h3)).trans h3 | exact (b4.block _ (lt_of_block HX.out)).trans HX.out); clear b4)
          | fail)
      all_goals (
        cases q with
        | true =>
          have HN := hide' (show ∀ j, j < i + 1 → tv (qtrN j) = qtrN (tv j) from fun j hj => by
            by_cases ji : j = i
            · rw [ji]; exact QI.out.1 rfl
            · exact HA.out j (by omega))
          go_wp2
          first
            | exact ⟨⟨i + 1, by go_num, by omega, D4, hide' h4, HN⟩, by simp [intOf]; omega⟩
            | exact ⟨⟨i + 1, by go_num, by omega, D3, hide' h3, HN⟩, by simp [intOf]; omega⟩
        | false =>
          have KF := hide' (turn_false il (fun h => by have := QI.out.2 h; cases this))
          go_wp2
          refine bodyPost_ret (v := .tuple #[.bool false, .nilIface]) (by simp [results, Tryd.results29, go_sem]) rfl ?_
          exact ⟨by rw [KF.out], (by first | exact D4.out | exact D3.out)⟩)
    · have i16 : i = 16 := by omega
      subst i16
      have KT := hide' (turn_true HA.out)
      go_wp2
      refine bodyPost_ret (v := .tuple #[.bool true, .nilIface]) (by simp [results, Tryd.results29, go_sem]) rfl ?_
      exact ⟨by rw [KT.out], HB.out⟩
end Go.Proofs.YtfeddccbhmbkmaaDoor

