/-
  What the last text of this claim leans on, part 27: Ga8.
-/
import Derived.Test.YtbkllhlapdmlfaaQb26
import Derived.Test.YtbkllhlapdmlfaaQb24
import Derived.Deep.CutRange
namespace Go.Proofs.Ytbkllhlapdmlfaa
open Go.RowKit
set_option linter.unusedVariables false
theorem zero_afterI : (Try.prog.info? 81).map (fun i => i.zero) = some (some (.agg (arrF 128 (u8F fun _ => 0)))) := by kernel_rfl
theorem zero_after (w : World) : (zeroValue 81).run Try.prog w = .ok (.agg (arrF 128 (u8F fun _ => 0))) w := by
  obtain ⟨i, hi, hz⟩ := Option.map_eq_some_iff.1 zero_afterI
  simp [zeroValue, typeInfo, hi, hz]
/-- The table while it is made. -/
structure MB (w wr : World) (M : Nat → Nat) : Prop where
  tab : wr.heap[w.heap.size]? = some (.cells (arrF 128 (u8F M)) 81 (0, 0))
  below : Below w.heap.size w wr
theorem MB.cell {w wr : World} {M : Nat → Nat} (h : MB w wr M) {j : Nat} (hj : j < 128) : wr.cell? ⟨w.heap.size, j, none⟩ = some (.int .u8 (M j : Int)) ∧ wr.frozen? ⟨w.heap.size, j, none⟩ = false := by
  exact ⟨by rw [cell_of_row wr _ _ _ _ _ h.tab, arrF_get _ hj]; rfl, frozen_of_row wr _ _ _ _ h.tab⟩
theorem MB.set {w wr : World} {M : Nat → Nat} (h : MB w wr M) (i v : Nat) : MB w (wr.setCell ⟨w.heap.size, i, none⟩ (.int .u8 (v : Int))) (fun k => if k = i then v else M k) := by
  refine ⟨?_, h.below.setCell (Nat.le_refl _) _⟩
  rw [heap_setCell_same _ _ _ _ _ _ h.tab, arrF_set]
  refine congrArg (fun z => some (Obj.cells z 81 (0, 0))) (arrF_ext fun k _ => ?_)
  unfold u8F
  try dsimp only
  by_cases e : k = i
  · rw [if_pos e, if_pos e]
  · rw [if_neg e, if_neg e]
theorem MB.ext {w wr : World} {M M' : Nat → Nat} (h : MB w wr M) (e : ∀ k, k < 128 → M k = M' k) : MB w wr M' :=
  ⟨by rw [h.tab]; exact congrArg (fun z => some (Obj.cells z 81 (0, 0))) (arrF_ext fun k hk => by unfold u8F; rw [e k hk]), h.below⟩
theorem MB.drew {w wr : World} {M : Nat → Nat} (h : MB w wr M) : MB w wr.drew M := ⟨h.tab, h.below.drew⟩
theorem MB.lt {w wr : World} {M : Nat → Nat} (h : MB w wr M) : w.heap.size < wr.heap.size := lt_of_block h.tab
def m1G (i j : Nat) : Nat := if j % 64 < i then j % 64 else 0
theorem m1_next {i k : Nat} (hi : i < 64) (hk : k < 128) : (if k = 64 + i then i else if k = i then i else m1G i k) = m1G (i + 1) k := by
  unfold m1G
  by_cases a : k = 64 + i
  · rw [if_pos a, if_pos (by omega)]; omega
  · rw [if_neg a]
    by_cases b : k = i
    · rw [if_pos b, if_pos (by omega)]; omega
    · rw [if_neg b]
      by_cases c : k % 64 < i
      · rw [if_pos c, if_pos (by omega)]
      · rw [if_neg c, if_neg (by omega)]
/-- Two that meet head on, of the first so many directions. -/
def pairG (K i c : Nat) : Bool := (List.range i).any fun d => c == 2 ^ d + 2 ^ (d + K / 2)
def mG (K i j : Nat) : Nat := if pairG K i (j % 64) then (if j < 64 then tnG K (K - 1) (j % 64) else tnG K 1 (j % 64)) else j % 64
/-- What becomes of a cell, by its coin. -/
def aftG (K z c : Nat) : Nat := if pairG K (K / 2) c then (if z = 0 then tnG K (K - 1) c else tnG K 1 c) else if K = 6 ∧ (c = 21 ∨ c = 42) then tnG 6 1 c else c
def m3G (i j : Nat) : Nat := if (j % 64 = 21 ∧ 0 < i) ∨ (j % 64 = 42 ∧ 1 < i) then tnG 6 1 (j % 64) else mG 6 3 j
theorem m2_40 : ∀ k : Fin 128, (if k.val = 69 then 10 else if k.val = 5 then 10 else mG 4 0 k.val) = mG 4 1 k.val := by decide +kernel
theorem m2_41 : ∀ k : Fin 128, (if k.val = 74 then 5 else if k.val = 10 then 5 else mG 4 1 k.val) = mG 4 2 k.val := by decide +kernel
theorem m2_60 : ∀ k : Fin 128, (if k.val = 73 then 18 else if k.val = 9 then 36 else mG 6 0 k.val) = mG 6 1 k.val := by decide +kernel
theorem m2_61 : ∀ k : Fin 128, (if k.val = 82 then 36 else if k.val = 18 then 9 else mG 6 1 k.val) = mG 6 2 k.val := by decide +kernel
theorem m2_62 : ∀ k : Fin 128, (if k.val = 100 then 9 else if k.val = 36 then 18 else mG 6 2 k.val) = mG 6 3 k.val := by decide +kernel
theorem m3_0 : ∀ k : Fin 128, (if k.val = 85 then 42 else if k.val = 21 then 42 else m3G 0 k.val) = m3G 1 k.val := by decide +kernel
theorem m3_1 : ∀ k : Fin 128, (if k.val = 106 then 21 else if k.val = 42 then 21 else m3G 1 k.val) = m3G 2 k.val := by decide +kernel
theorem end_4 : ∀ k : Fin 128, mG 4 2 k.val = aftG 4 (k.val / 64) (k.val % 64) := by decide +kernel
theorem end_6 : ∀ k : Fin 128, m3G 2 k.val = aftG 6 (k.val / 64) (k.val % 64) := by decide +kernel
set_option maxRecDepth 100000 in
set_option maxHeartbeats 6400000 in
theorem meetings_4 (w : World) : Calls Try.prog 19 #[.int .i64 4] w fun e w' => e = .returned (.pointer (some ⟨w.heap.size, 0, none⟩)) ∧ w'.heap[w.heap.size]? = some (.cells (arrF 128 (afF (aftG 4))) 81 (0, 0)) ∧ Below w.heap.size w w' := by
  have hz := zero_after
  obtain ⟨w1, hw1⟩ : ∃ w1, w.alloc (.cells (arrF 128 (u8F fun _ => 0)) 81) = w1 := ⟨_, rfl⟩
  have S0 := hide' (show MB w w1 (m1G 0) from ⟨by rw [← hw1, heap_alloc_new]; exact congrArg (fun z => some (Obj.cells z 81 (0, 0))) (arrF_ext fun k _ => by unfold u8F m1G; simp), by rw [← hw1]; exact (Below.refl _ _).alloc (Nat.le_refl _) _⟩)
  obtain ⟨Z, hZ⟩ : ∃ Z, arrF 128 (u8F fun _ => 0) = Z := ⟨_, rfl⟩
  rw [hZ] at hz hw1
  clear hZ
  go_enter Try.func19, Try.ntmps19
  go_wp2
  try rw [hw1]
  clear hw1 hz
  go_loopw [9] (fun iv wr => ∃ (i : Nat), iv = .int .u8 (i : Int) ∧ i ≤ 64 ∧ Hid (MB w wr (m1G i))) (fun iv _ => ((64 : Int) - intOf iv).toNat)
  case atStart => exact ⟨0, rfl, by omega, S0⟩
  case round =>
    obtain ⟨i, rfl, hi, HS⟩ := hrel
    obtain ⟨V, rfl⟩ : ∃ V, V = wr := ⟨_, rfl⟩
    by_cases d : (i : Int) < 64
    · have il : i < 64 := by omega
      obtain ⟨c1, f1⟩ := HS.out.cell (j := i) (by omega)
      obtain ⟨c2, f2⟩ := (HS.out.set i i).cell (j := 64 + i) (by omega)
      have l1 := HS.out.lt
      have NX := hide' (((HS.out.set i i).set (64 + i) i).ext (fun k hk => m1_next il hk))
      obtain ⟨a1, ha1⟩ : ∃ a, m1G i i = a := ⟨_, rfl⟩
      obtain ⟨a2, ha2⟩ : ∃ a, (if 64 + i = i then i else m1G i (64 + i)) = a := ⟨_, rfl⟩
      rw [ha1] at c1
      rw [ha2] at c2
      clear ha1 ha2
      have wi := wrap_u8 (i + 1) (by omega)
      go_wp2
      exact ⟨⟨i + 1, by go_num, by omega, NX⟩, by simp [intOf]; omega⟩
    · have i64 : i = 64 := by omega
      have S2 := hide' (show MB w V (mG 4 0) from HS.out.ext (fun k hk => by rw [i64]; unfold m1G mG pairG; rw [if_pos (by omega)]; simp))
      clear i64 HS
      go_wp2
      go_loopw [23] (fun iv wr => ∃ (i : Nat), iv = .int .i64 (i : Int) ∧ i ≤ 2 ∧ Hid (MB w wr (mG 4 i))) (fun iv _ => ((2 : Int) - intOf iv).toNat)
      case atStart => exact ⟨0, by go_num, by omega, S2⟩
      case round =>
        obtain ⟨i, rfl, hi2, HT⟩ := hrel
        obtain ⟨U, rfl⟩ : ∃ U, U = wr := ⟨_, rfl⟩
        rcases (by omega : i = 0 ∨ i = 1 ∨ i = 2) with rfl | rfl | rfl
        · have bo : bits .or .u8 1 4 = 5 := by decide +kernel
          go_upto_region 11 with (first | go_big_region | fail)
          clear bo
          have T0 := hide' (fun V => show Calls Try.prog 26 #[.int .u8 5, .int .i64 3, .int .i64 4] V fun e w' => e = .returned (.int .u8 10) ∧ w' = V.drew from turned_43 5 V (by omega))
          have T1 := hide' (fun V => show Calls Try.prog 26 #[.int .u8 5, .int .i64 1, .int .i64 4] V fun e w' => e = .returned (.int .u8 10) ∧ w' = V.drew from turned_41 5 V (by omega))
          have MX := hide' HT.out
          obtain ⟨e1, f1⟩ := MX.out.cell (j := 5) (by omega)
          obtain ⟨e2, f2⟩ := MX.out.cell (j := 69) (by omega)
          have l1 := MX.out.lt
          have NX := hide' (((MX.out.set 5 10).set 69 10).ext (fun k hk => m2_40 ⟨k, hk⟩))
          have NY := hide' (NX.out.drew.drew.drew)
          obtain ⟨a1, ha1⟩ : ∃ a, mG 4 0 5 = a := ⟨_, rfl⟩
          rw [ha1] at e1
          obtain ⟨a2, ha2⟩ : ∃ a, mG 4 0 69 = a := ⟨_, rfl⟩
          rw [ha2] at e2
          clear ha1 ha2
          go_wp2_with fail
          refine (T0.out _).mono ?_
          rintro e u1 ⟨rfl, rfl⟩
          go_wp2_with fail
          refine (T1.out _).mono ?_
          rintro e u2 ⟨rfl, rfl⟩
          go_wp2
          exact ⟨⟨1, by go_num, by omega, NY⟩, by simp [intOf]⟩
        · have bo : bits .or .u8 2 8 = 10 := by decide +kernel
          go_upto_region 11 with (first | go_big_region | fail)
          clear bo
          have T0 := hide' (fun V => show Calls Try.prog 26 #[.int .u8 10, .int .i64 3, .int .i64 4] V fun e w' => e = .returned (.int .u8 5) ∧ w' = V.drew from turned_43 10 V (by omega))
          have T1 := hide' (fun V => show Calls Try.prog 26 #[.int .u8 10, .int .i64 1, .int .i64 4] V fun e w' => e = .returned (.int .u8 5) ∧ w' = V.drew from turned_41 10 V (by omega))
          have MX := hide' HT.out
          obtain ⟨e1, f1⟩ := MX.out.cell (j := 10) (by omega)
          obtain ⟨e2, f2⟩ := MX.out.cell (j := 74) (by omega)
          have l1 := MX.out.lt
          have NX := hide' (((MX.out.set 10 5).set 74 5).ext (fun k hk => m2_41 ⟨k, hk⟩))
          have NY := hide' (NX.out.drew.drew.drew)
          obtain ⟨a1, ha1⟩ : ∃ a, mG 4 1 10 = a := ⟨_, rfl⟩
          rw [ha1] at e1
          obtain ⟨a2, ha2⟩ : ∃ a, mG 4 1 74 = a := ⟨_, rfl⟩
          rw [ha2] at e2
          clear ha1 ha2
          go_wp2_with fail
          refine (T0.out _).mono ?_
          rintro e u1 ⟨rfl, rfl⟩
          go_wp2_with fail
          refine (T1.out _).mono ?_
          rintro e u2 ⟨rfl, rfl⟩
          go_wp2
          exact ⟨⟨2, by go_num, by omega, NY⟩, by simp [intOf]⟩
        · have FE := hide' (show U.heap[w.heap.size]? = some (.cells (arrF 128 (afF (aftG 4))) 81 (0, 0)) by
            rw [HT.out.tab]
            exact congrArg (fun z => some (Obj.cells z 81 (0, 0))) (arrF_ext fun k hk => by unfold u8F afF; rw [end_4 ⟨k, hk⟩]))
          go_wp2
          go_ret
          exact ⟨rfl, FE.out, HT.out.below⟩
set_option maxRecDepth 100000 in
set_option maxHeartbeats 6400000 in
theorem meetings_6 (w : World) : Calls Try.prog 19 #[.int .i64 6] w fun e w' => e = .returned (.pointer (some ⟨w.heap.size, 0, none⟩)) ∧ w'.heap[w.heap.size]? = some (.cells (arrF 128 (afF (aftG 6))) 81 (0, 0)) ∧ Below w.heap.size w w' := by
  have hz := zero_after
  obtain ⟨w1, hw1⟩ : ∃ w1, w.alloc (.cells (arrF 128 (u8F fun _ => 0)) 81) = w1 := ⟨_, rfl⟩
  have S0 := hide' (show MB w w1 (m1G 0) from ⟨by rw [← hw1, heap_alloc_new]; exact congrArg (fun z => some (Obj.cells z 81 (0, 0))) (arrF_ext fun k _ => by unfold u8F m1G; simp), by rw [← hw1]; exact (Below.refl _ _).alloc (Nat.le_refl _) _⟩)
  obtain ⟨Z, hZ⟩ : ∃ Z, arrF 128 (u8F fun _ => 0) = Z := ⟨_, rfl⟩
  rw [hZ] at hz hw1
  clear hZ
  go_enter Try.func19, Try.ntmps19
  go_wp2
  try rw [hw1]
  clear hw1 hz
  go_loopw [9] (fun iv wr => ∃ (i : Nat), iv = .int .u8 (i : Int) ∧ i ≤ 64 ∧ Hid (MB w wr (m1G i))) (fun iv _ => ((64 : Int) - intOf iv).toNat)
  case atStart => exact ⟨0, rfl, by omega, S0⟩
  case round =>
    obtain ⟨i, rfl, hi, HS⟩ := hrel
    obtain ⟨V, rfl⟩ : ∃ V, V = wr := ⟨_, rfl⟩
    by_cases d : (i : Int) < 64
    · have il : i < 64 := by omega
      obtain ⟨c1, f1⟩ := HS.out.cell (j := i) (by omega)
      obtain ⟨c2, f2⟩ := (HS.out.set i i).cell (j := 64 + i) (by omega)
      have l1 := HS.out.lt
      have NX := hide' (((HS.out.set i i).set (64 + i) i).ext (fun k hk => m1_next il hk))
      obtain ⟨a1, ha1⟩ : ∃ a, m1G i i = a := ⟨_, rfl⟩
      obtain ⟨a2, ha2⟩ : ∃ a, (if 64 + i = i then i else m1G i (64 + i)) = a := ⟨_, rfl⟩
      rw [ha1] at c1
      rw [ha2] at c2
      clear ha1 ha2
      have wi := wrap_u8 (i + 1) (by omega)
      go_wp2
      exact ⟨⟨i + 1, by go_num, by omega, NX⟩, by simp [intOf]; omega⟩
    · have i64 : i = 64 := by omega
      have S2 := hide' (show MB w V (mG 6 0) from HS.out.ext (fun k hk => by rw [i64]; unfold m1G mG pairG; rw [if_pos (by omega)]; simp))
      clear i64 HS
      go_wp2
      go_loopw [23] (fun iv wr => ∃ (i : Nat), iv = .int .i64 (i : Int) ∧ i ≤ 3 ∧ Hid (MB w wr (mG 6 i))) (fun iv _ => ((3 : Int) - intOf iv).toNat)
      case atStart => exact ⟨0, by go_num, by omega, S2⟩
      case round =>
        obtain ⟨i, rfl, hi2, HT⟩ := hrel
        obtain ⟨U, rfl⟩ : ∃ U, U = wr := ⟨_, rfl⟩
        rcases (by omega : i = 0 ∨ i = 1 ∨ i = 2 ∨ i = 3) with rfl | rfl | rfl | rfl
        · have bo : bits .or .u8 1 8 = 9 := by decide +kernel
          go_upto_region 11 with (first | go_big_region | fail)
          clear bo
          have T0 := hide' (fun V => show Calls Try.prog 26 #[.int .u8 9, .int .i64 5, .int .i64 6] V fun e w' => e = .returned (.int .u8 36) ∧ w' = V.drew from turned_65 9 V (by omega))
          have T1 := hide' (fun V => show Calls Try.prog 26 #[.int .u8 9, .int .i64 1, .int .i64 6] V fun e w' => e = .returned (.int .u8 18) ∧ w' = V.drew from turned_61 9 V (by omega))
          have MX := hide' HT.out
          obtain ⟨e1, f1⟩ := MX.out.cell (j := 9) (by omega)
          obtain ⟨e2, f2⟩ := MX.out.cell (j := 73) (by omega)
          have l1 := MX.out.lt
          have NX := hide' (((MX.out.set 9 36).set 73 18).ext (fun k hk => m2_60 ⟨k, hk⟩))
          have NY := hide' (NX.out.drew.drew.drew)
          obtain ⟨a1, ha1⟩ : ∃ a, mG 6 0 9 = a := ⟨_, rfl⟩
          rw [ha1] at e1
          obtain ⟨a2, ha2⟩ : ∃ a, mG 6 0 73 = a := ⟨_, rfl⟩
          rw [ha2] at e2
          clear ha1 ha2
          go_wp2_with fail
          refine (T0.out _).mono ?_
          rintro e u1 ⟨rfl, rfl⟩
          go_wp2_with fail
          refine (T1.out _).mono ?_
          rintro e u2 ⟨rfl, rfl⟩
          go_wp2
          exact ⟨⟨1, by go_num, by omega, NY⟩, by simp [intOf]⟩
        · have bo : bits .or .u8 2 16 = 18 := by decide +kernel
          go_upto_region 11 with (first | go_big_region | fail)
          clear bo
          have T0 := hide' (fun V => show Calls Try.prog 26 #[.int .u8 18, .int .i64 5, .int .i64 6] V fun e w' => e = .returned (.int .u8 9) ∧ w' = V.drew from turned_65 18 V (by omega))
          have T1 := hide' (fun V => show Calls Try.prog 26 #[.int .u8 18, .int .i64 1, .int .i64 6] V fun e w' => e = .returned (.int .u8 36) ∧ w' = V.drew from turned_61 18 V (by omega))
          have MX := hide' HT.out
          obtain ⟨e1, f1⟩ := MX.out.cell (j := 18) (by omega)
          obtain ⟨e2, f2⟩ := MX.out.cell (j := 82) (by omega)
          have l1 := MX.out.lt
          have NX := hide' (((MX.out.set 18 9).set 82 36).ext (fun k hk => m2_61 ⟨k, hk⟩))
          have NY := hide' (NX.out.drew.drew.drew)
          obtain ⟨a1, ha1⟩ : ∃ a, mG 6 1 18 = a := ⟨_, rfl⟩
          rw [ha1] at e1
          obtain ⟨a2, ha2⟩ : ∃ a, mG 6 1 82 = a := ⟨_, rfl⟩
          rw [ha2] at e2
          clear ha1 ha2
          go_wp2_with fail
          refine (T0.out _).mono ?_
          rintro e u1 ⟨rfl, rfl⟩
          go_wp2_with fail
          refine (T1.out _).mono ?_
          rintro e u2 ⟨rfl, rfl⟩
          go_wp2
          exact ⟨⟨2, by go_num, by omega, NY⟩, by simp [intOf]⟩
        · have bo : bits .or .u8 4 32 = 36 := by decide +kernel
          go_upto_region 11 with (first | go_big_region | fail)
          clear bo
          have T0 := hide' (fun V => show Calls Try.prog 26 #[.int .u8 36, .int .i64 5, .int .i64 6] V fun e w' => e = .returned (.int .u8 18) ∧ w' = V.drew from turned_65 36 V (by omega))
          have T1 := hide' (fun V => show Calls Try.prog 26 #[.int .u8 36, .int .i64 1, .int .i64 6] V fun e w' => e = .returned (.int .u8 9) ∧ w' = V.drew from turned_61 36 V (by omega))
          have MX := hide' HT.out
          obtain ⟨e1, f1⟩ := MX.out.cell (j := 36) (by omega)
          obtain ⟨e2, f2⟩ := MX.out.cell (j := 100) (by omega)
          have l1 := MX.out.lt
          have NX := hide' (((MX.out.set 36 18).set 100 9).ext (fun k hk => m2_62 ⟨k, hk⟩))
          have NY := hide' (NX.out.drew.drew.drew)
          obtain ⟨a1, ha1⟩ : ∃ a, mG 6 2 36 = a := ⟨_, rfl⟩
          rw [ha1] at e1
          obtain ⟨a2, ha2⟩ : ∃ a, mG 6 2 100 = a := ⟨_, rfl⟩
          rw [ha2] at e2
          clear ha1 ha2
          go_wp2_with fail
          refine (T0.out _).mono ?_
          rintro e u1 ⟨rfl, rfl⟩
          go_wp2_with fail
          refine (T1.out _).mono ?_
          rintro e u2 ⟨rfl, rfl⟩
          go_wp2
          exact ⟨⟨3, by go_num, by omega, NY⟩, by simp [intOf]⟩
        · obtain ⟨g, hg⟩ : ∃ g, U.heap.size = g := ⟨_, rfl⟩
          have lg := HT.out.lt
          have Y0 := hide' (show MB w (U.alloc (.cells #[.int .u8 21, .int .u8 42] 65)) (m3G 0) from ⟨(Below.heap_alloc _ _ _ lg).trans (HT.out.ext (M' := m3G 0) (fun k hk => by unfold m3G; simp)).tab, HT.out.below.alloc HT.out.below.size _⟩)
          have Q0 := hide' (show (U.alloc (.cells #[.int .u8 21, .int .u8 42] 65)).heap[g]? = some (.cells #[.int .u8 21, .int .u8 42] 65 (0, 0)) by rw [← hg]; exact heap_alloc_new _ _)
          rw [hg] at lg
          go_upto_region 15 with fail
          try rw [hg]
          obtain ⟨U2, hU2⟩ : ∃ U2, U.alloc (.cells #[.int .u8 21, .int .u8 42] 65) = U2 := ⟨_, rfl⟩
          rw [hU2] at Y0 Q0 ⊢
          clear hU2 hg HT
          go_loopw [53] (fun iv wr => ∃ (i : Nat), iv = .int .i64 (i : Int) ∧ i ≤ 2 ∧ Hid (MB w wr (m3G i)) ∧ Hid (wr.heap[g]? = some (.cells #[.int .u8 21, .int .u8 42] 65 (0, 0)))) (fun iv _ => ((2 : Int) - intOf iv).toNat)
          case atStart => exact ⟨0, by go_num, by omega, Y0, Q0⟩
          case round =>
            obtain ⟨i, rfl, hi3, HU, HQ⟩ := hrel
            obtain ⟨R, rfl⟩ : ∃ R, R = wr := ⟨_, rfl⟩
            have q0 := cell_of_row R _ 0 _ _ _ HQ.out
            have q1 := cell_of_row R _ 1 _ _ _ HQ.out
            simp at q0 q1
            rcases (by omega : i = 0 ∨ i = 1 ∨ i = 2) with rfl | rfl | rfl
            · go_upto_region 17 with fail
              clear q0 q1
              have T0 := hide' (fun V => show Calls Try.prog 26 #[.int .u8 21, .int .i64 1, .int .i64 6] V fun e w' => e = .returned (.int .u8 42) ∧ w' = V.drew from turned_61 21 V (by omega))
              have T1 := hide' (fun V => show Calls Try.prog 26 #[.int .u8 21, .int .i64 1, .int .i64 6] V fun e w' => e = .returned (.int .u8 42) ∧ w' = V.drew from turned_61 21 V (by omega))
              have MX := hide' HU.out
              obtain ⟨e1, f1⟩ := MX.out.cell (j := 21) (by omega)
              obtain ⟨e2, f2⟩ := MX.out.cell (j := 85) (by omega)
              have l1 := MX.out.lt
              have NX := hide' (((MX.out.set 21 42).set 85 42).ext (fun k hk => m3_0 ⟨k, hk⟩))
              have NY := hide' (NX.out.drew.drew)
              obtain ⟨a1, ha1⟩ : ∃ a, m3G 0 21 = a := ⟨_, rfl⟩
              rw [ha1] at e1
              obtain ⟨a2, ha2⟩ : ∃ a, m3G 0 85 = a := ⟨_, rfl⟩
              rw [ha2] at e2
              clear ha1 ha2
              go_wp2_with fail
              refine (T0.out _).mono ?_
              rintro e u1 ⟨rfl, rfl⟩
              go_wp2_with fail
              refine (T1.out _).mono ?_
              rintro e u2 ⟨rfl, rfl⟩
              go_wp2
              have NQ := hide' (((Below.heap_setCell (R.setCell ⟨w.heap.size, 21, none⟩ (.int .u8 42)) ⟨w.heap.size, 85, none⟩ (.int .u8 42) g (by show g ≠ w.heap.size; omega)).trans (Below.heap_setCell R ⟨w.heap.size, 21, none⟩ (.int .u8 42) g (by show g ≠ w.heap.size; omega))).trans HQ.out)
              refine ⟨⟨_, _, _, _, _, _, _, _, _, _, _, _, _, _, _, _, _, _, ?_, rfl⟩, by simp [intOf]⟩
              exact ⟨1, by go_num, by omega, NY, NQ⟩
            · go_upto_region 17 with fail
              clear q0 q1
              have T0 := hide' (fun V => show Calls Try.prog 26 #[.int .u8 42, .int .i64 1, .int .i64 6] V fun e w' => e = .returned (.int .u8 21) ∧ w' = V.drew from turned_61 42 V (by omega))
              have T1 := hide' (fun V => show Calls Try.prog 26 #[.int .u8 42, .int .i64 1, .int .i64 6] V fun e w' => e = .returned (.int .u8 21) ∧ w' = V.drew from turned_61 42 V (by omega))
              have MX := hide' HU.out
              obtain ⟨e1, f1⟩ := MX.out.cell (j := 42) (by omega)
              obtain ⟨e2, f2⟩ := MX.out.cell (j := 106) (by omega)
              have l1 := MX.out.lt
              have NX := hide' (((MX.out.set 42 21).set 106 21).ext (fun k hk => m3_1 ⟨k, hk⟩))
              have NY := hide' (NX.out.drew.drew)
              obtain ⟨a1, ha1⟩ : ∃ a, m3G 1 42 = a := ⟨_, rfl⟩
              rw [ha1] at e1
              obtain ⟨a2, ha2⟩ : ∃ a, m3G 1 106 = a := ⟨_, rfl⟩
              rw [ha2] at e2
              clear ha1 ha2
              go_wp2_with fail
              refine (T0.out _).mono ?_
              rintro e u1 ⟨rfl, rfl⟩
              go_wp2_with fail
              refine (T1.out _).mono ?_
              rintro e u2 ⟨rfl, rfl⟩
              go_wp2
              have NQ := hide' (((Below.heap_setCell (R.setCell ⟨w.heap.size, 42, none⟩ (.int .u8 21)) ⟨w.heap.size, 106, none⟩ (.int .u8 21) g (by show g ≠ w.heap.size; omega)).trans (Below.heap_setCell R ⟨w.heap.size, 42, none⟩ (.int .u8 21) g (by show g ≠ w.heap.size; omega))).trans HQ.out)
              refine ⟨⟨_, _, _, _, _, _, _, _, _, _, _, _, _, _, _, _, _, _, ?_, rfl⟩, by simp [intOf]⟩
              exact ⟨2, by go_num, by omega, NY, NQ⟩
            · have FE := hide' (show R.heap[w.heap.size]? = some (.cells (arrF 128 (afF (aftG 6))) 81 (0, 0)) by
                rw [HU.out.tab]
                exact congrArg (fun z => some (Obj.cells z 81 (0, 0))) (arrF_ext fun k hk => by unfold u8F afF; rw [end_6 ⟨k, hk⟩]))
              go_wp2
              go_ret
              exact ⟨rfl, FE.out, HU.out.below⟩
end Go.Proofs.Ytbkllhlapdmlfaa

