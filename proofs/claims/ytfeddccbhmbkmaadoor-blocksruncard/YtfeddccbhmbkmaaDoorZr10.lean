/-
  What the last text of this claim leans on, part 10: Bk8, Bk9.
-/
import Derived.Test.YtfeddccbhmbkmaaDoorZr7
import Derived.Test.YtfeddccbhmbkmaaDoorZr8
namespace Go.Proofs.YtfeddccbhmbkmaaDoor
open Go.RowKit
set_option linter.unusedVariables false
def backF (tv : Nat → Nat) : Nat → Nat → Nat
  | 0, _ => 0
  | i + 1, v => if v = tv i then i else backF tv i v
def takF (tv : Nat → Nat) : Nat → Nat → Bool
  | 0, _ => false
  | i + 1, v => if v = tv i then true else takF tv i v
theorem takF_iff (tv : Nat → Nat) (v : Nat) : ∀ i, takF tv i v = true ↔ ∃ j, j < i ∧ tv j = v
  | 0 => by simp [takF]
  | i + 1 => by
    rw [takF]
    by_cases h : v = tv i
    · rw [if_pos h]; simp; exact ⟨i, by omega, h.symm⟩
    · rw [if_neg h, takF_iff tv v i]
      constructor
      · rintro ⟨j, hj, e⟩; exact ⟨j, by omega, e⟩
      · rintro ⟨j, hj, e⟩
        have : j ≠ i := fun q => h (by rw [← e, q])
        exact ⟨j, by omega, e⟩
def BackPost (tv : Nat → Nat) (w : World) (e : Ending) (w' : World) : Prop :=
  (∃ i j, i < j ∧ j < 16 ∧ tv i = tv j ∧ e = .returned (.tuple #[.slice none 0 0, .iface 83 (.int .i64 5)]) ∧ Below w.heap.size w w') ∨
  ((∀ a b, a < 16 → b < 16 → tv a = tv b → a = b) ∧ ∃ g, e = .returned (.tuple #[.slice (some ⟨g, 0, none⟩) 16 16, .nilIface]) ∧ w.heap.size ≤ g ∧ w'.heap[g]? = some (.cells (arrF 16 (fun v => .int .i64 (backF tv 16 v : Int))) 3 (0, 0)) ∧ Below w.heap.size w w')
structure BK (w w2 wr : World) (tv : Nat → Nat) (i : Nat) : Prop where
  keep : ∀ k, k < w2.heap.size → wr.heap[k]? = w2.heap[k]?
  bk : wr.heap[w2.heap.size]? = some (.cells (arrF 16 (fun v => .int .i64 (backF tv i v : Int))) 3 (0, 0))
  tk : wr.heap[w2.heap.size + 1]? = some (.cells (arrF 16 (fun v => .bool (takF tv i v))) 132 (0, 0))
  below : Below w.heap.size w wr
  hw : w.heap.size ≤ w2.heap.size
theorem BK.next {w w2 wr : World} {tv : Nat → Nat} {i : Nat} (h : BK w w2 wr tv i) : BK w w2 ((wr.setCell ⟨w2.heap.size + 1, tv i, none⟩ (.bool true)).setCell ⟨w2.heap.size, tv i, none⟩ (.int .i64 (i : Int))) tv (i + 1) := by
  have hw := h.hw
  have b0 : (wr.setCell ⟨w2.heap.size + 1, tv i, none⟩ (.bool true)).heap[w2.heap.size]? = _ := (Below.heap_setCell _ _ _ _ (by simp)).trans h.bk
  refine ⟨fun k hk => ?_, ?_, ?_, (h.below.setCell (by simp; omega) _).setCell (by simp; omega) _, hw⟩
  · rw [Below.heap_setCell _ _ _ _ (by simp; omega), Below.heap_setCell _ _ _ _ (by simp; omega)]; exact h.keep k hk
  · rw [heap_setCell_same _ _ _ _ _ _ b0, arrF_set]
    refine congrArg (fun z => some (Obj.cells z 3 (0, 0))) (arrF_ext fun k _ => ?_)
    try dsimp only
    rw [backF]
    by_cases e : k = tv i
    · rw [if_pos e, if_pos e]
    · rw [if_neg e, if_neg e]
  · rw [Below.heap_setCell _ _ _ _ (by simp), heap_setCell_same _ _ _ _ _ _ h.tk, arrF_set]
    refine congrArg (fun z => some (Obj.cells z 132 (0, 0))) (arrF_ext fun k _ => ?_)
    try dsimp only
    rw [takF]
    by_cases e : k = tv i
    · rw [if_pos e, if_pos e]
    · rw [if_neg e, if_neg e]
theorem inj_next {tv : Nat → Nat} {i : Nat} (h : ∀ a b, a < i → b < i → tv a = tv b → a = b) (n : takF tv i (tv i) = false) : ∀ a b, a < i + 1 → b < i + 1 → tv a = tv b → a = b := by
  have no : ∀ j, j < i → tv j ≠ tv i := fun j hj e => by
    have := (takF_iff tv (tv i) i).2 ⟨j, hj, e⟩
    rw [n] at this; cases this
  intro a b ha hb e
  by_cases ai : a = i
  · by_cases bi : b = i
    · omega
    · exact absurd (by rw [← e, ai]) (no b (by omega))
  · by_cases bi : b = i
    · exact absurd (by rw [e, bi]) (no a (by omega))
    · exact h a b (by omega) (by omega) e
set_option maxRecDepth 100000 in
set_option maxHeartbeats 3200000 in
theorem back_good (t : List Int) (a : Option Addr) (c : Nat) (tv : Nat → Nat) (w : World) (hP : ArgP w t a 16 c) (h0 : tabE t = 0) (hT : TbB w a tv) : Calls Tryd.prog 26 #[.slice a 16 c] w (BackPost tv w) := by
  have CC := hide' (Check_B t a 16 c w hP)
  rw [h0, show errOf 0 = .nilIface from rfl] at CC
  have hmk : ∀ w, (Instr.makeSlice 22 (.int .i64 16) (.int .i64 16)).run Tryd.prog w = .ok (.slice (some ⟨w.heap.size, 0, none⟩) 16 16) (w.alloc (.cells (madeCells #[.int .i64 0] 16) 3)) := fun w => run_make_row' (P := Tryd.prog) 22 3 (.int .i64 0) 8 Tryd.underlying22 info_int rfl .i64 .i64 16 (by omega) (by omega) w
  obtain ⟨g, off, rfl, hg, hc⟩ := hT.cells
  have HC := hide' (fun (V : World) (hV : Below w.heap.size w V) k (hk : k < 16) => show V.cell? ⟨g, off + k, none⟩ = some (.int .i64 (tv k : Int)) from (World.cell?_of_block (w := w) (a := ⟨g, off + k, none⟩) (hV.block g hg)).trans (hc k hk))
  have HL := hide' hT.lt
  clear hP hT hg hc h0
  go_enter Tryd.func26, Tryd.ntmps26
  go_wp2_with fail
  refine CC.out.mono ?_
  rintro e w2 ⟨rfl, b2⟩
  obtain ⟨w3, hw3⟩ : ∃ V, (w2.alloc (.cells (madeCells #[.int .i64 0] 16) 3)).alloc (.cells #[.bool false, .bool false, .bool false, .bool false, .bool false, .bool false, .bool false, .bool false, .bool false, .bool false, .bool false, .bool false, .bool false, .bool false, .bool false, .bool false] 132) = V := ⟨_, rfl⟩
  have S0 := hide' (show BK w w2 w3 tv 0 from ⟨fun k hk => by rw [← hw3, Below.heap_alloc _ _ _ (by simp; omega)]; exact Below.heap_alloc _ _ _ hk, by rw [← hw3, Below.heap_alloc _ _ _ (by simp), made_arr]; exact heap_alloc_new _ _, by rw [← hw3, show (#[.bool false, .bool false, .bool false, .bool false, .bool false, .bool false, .bool false, .bool false, .bool false, .bool false, .bool false, .bool false, .bool false, .bool false, .bool false, .bool false] : Array Value) = arrF 16 (fun v => .bool (takF tv 0 v)) from by kernel_rfl]; exact heap_atX _ _ _ (by simp), by rw [← hw3]; exact (b2.alloc b2.size _).alloc (by simp; have := b2.size; omega) _, b2.size⟩)
  clear b2
  go_wp2
  try rw [hw3]
  clear hw3 hmk
  go_loopw [17] (fun iv wr => ∃ (i : Nat), iv = .int .i64 (i : Int) ∧ i ≤ 16 ∧ Hid (BK w w2 wr tv i) ∧ Hid (∀ a b, a < i → b < i → tv a = tv b → a = b)) (fun iv _ => 16 - (intOf iv).toNat)
  case atStart => exact ⟨0, rfl, by omega, S0, hide' (fun a b h => by omega)⟩
  case round =>
    obtain ⟨i, rfl, hi, HB, HI⟩ := hrel
    by_cases d : (i : Int) < 16
    · have il : i < 16 := by omega
      have ci := HC.out wr HB.out.below i il
      have tl := HL.out i il
      have NX := hide' HB.out.next
      have TI := hide' (takF_iff tv (tv i) i)
      have IN := hide' (fun n => inj_next HI.out n)
      have c1 : wr.cell? ⟨w2.heap.size + 1, tv i, none⟩ = some (.bool (takF tv i (tv i))) := by rw [cell_of_row wr _ _ _ _ _ HB.out.tk, arrF_get _ tl]
      have c2 : wr.cell? ⟨w2.heap.size, tv i, none⟩ = some (.int .i64 (backF tv i (tv i) : Int)) := by rw [cell_of_row wr _ _ _ _ _ HB.out.bk, arrF_get _ tl]
      have f1 := frozen_of_row wr _ (tv i) _ _ HB.out.tk
      have f2 := frozen_of_row wr _ (tv i) _ _ HB.out.bk
      obtain ⟨v, hv⟩ : ∃ v, tv i = v := ⟨_, rfl⟩
      rw [hv] at ci tl NX TI IN c1 c2 f1 f2
      have vi : (v : Int) < 16 := by omega
      have HV := hide' hv
      obtain ⟨q, hq⟩ : ∃ q, takF tv i v = q := ⟨_, rfl⟩
      rw [hq] at c1 TI IN
      have BE := hide' HB.out.below
      clear hv hq
      cases q with
      | true =>
        go_wp2
        refine bodyPost_ret (v := .tuple #[.slice none 0 0, .iface 83 (.int .i64 5)]) (by simp [results, Tryd.results26, go_sem]) rfl ?_
        obtain ⟨j, hj, ej⟩ := TI.out.1 (by simp)
        exact Or.inl ⟨j, i, hj, il, by rw [ej, HV.out], rfl, BE.out⟩
      | false =>
        go_wp2
        exact ⟨⟨i + 1, by go_num, by omega, NX, hide' (IN.out rfl)⟩, by simp [intOf]; omega⟩
    · have i16 : i = 16 := by omega
      subst i16
      go_wp2
      refine bodyPost_ret (v := .tuple #[.slice (some ⟨w2.heap.size, 0, none⟩) 16 16, .nilIface]) (by simp [results, Tryd.results26, go_sem]) rfl ?_
      exact Or.inr ⟨HI.out, w2.heap.size, rfl, HB.out.hw, HB.out.bk, HB.out.below⟩
end Go.Proofs.YtfeddccbhmbkmaaDoor

namespace Go.Proofs.YtfeddccbhmbkmaaDoor
open Go.RowKit
set_option linter.unusedVariables false
theorem index_blk (tv : Nat → Nat) (i : Nat) (hi : i < 16) (w : World) : (Instr.index 125 (.agg (arrF 64 (bkG tv))) (.int .i64 (i : Int))).run Tryd.prog w = .ok (.agg #[.int .i64 (dg (tv i) 0 : Int), .int .i64 (dg (tv i) 1 : Int), .int .i64 (dg (tv i) 2 : Int), .int .i64 (dg (tv i) 3 : Int)]) w := by
  have : i = 0 ∨ i = 1 ∨ i = 2 ∨ i = 3 ∨ i = 4 ∨ i = 5 ∨ i = 6 ∨ i = 7 ∨ i = 8 ∨ i = 9 ∨ i = 10 ∨ i = 11 ∨ i = 12 ∨ i = 13 ∨ i = 14 ∨ i = 15 := by omega
  rcases this with rfl | rfl | rfl | rfl | rfl | rfl | rfl | rfl | rfl | rfl | rfl | rfl | rfl | rfl | rfl | rfl
  · exact (show (Instr.index 125 (.agg (arrF 64 (bkG tv))) (.int .i64 0)).run Tryd.prog w = .ok (.agg #[.int .i64 (dg (tv 0) 0 : Int), .int .i64 (dg (tv 0) 1 : Int), .int .i64 (dg (tv 0) 2 : Int), .int .i64 (dg (tv 0) 3 : Int)]) w by kernel_rfl)
  · exact (show (Instr.index 125 (.agg (arrF 64 (bkG tv))) (.int .i64 1)).run Tryd.prog w = .ok (.agg #[.int .i64 (dg (tv 1) 0 : Int), .int .i64 (dg (tv 1) 1 : Int), .int .i64 (dg (tv 1) 2 : Int), .int .i64 (dg (tv 1) 3 : Int)]) w by kernel_rfl)
  · exact (show (Instr.index 125 (.agg (arrF 64 (bkG tv))) (.int .i64 2)).run Tryd.prog w = .ok (.agg #[.int .i64 (dg (tv 2) 0 : Int), .int .i64 (dg (tv 2) 1 : Int), .int .i64 (dg (tv 2) 2 : Int), .int .i64 (dg (tv 2) 3 : Int)]) w by kernel_rfl)
  · exact (show (Instr.index 125 (.agg (arrF 64 (bkG tv))) (.int .i64 3)).run Tryd.prog w = .ok (.agg #[.int .i64 (dg (tv 3) 0 : Int), .int .i64 (dg (tv 3) 1 : Int), .int .i64 (dg (tv 3) 2 : Int), .int .i64 (dg (tv 3) 3 : Int)]) w by kernel_rfl)
  · exact (show (Instr.index 125 (.agg (arrF 64 (bkG tv))) (.int .i64 4)).run Tryd.prog w = .ok (.agg #[.int .i64 (dg (tv 4) 0 : Int), .int .i64 (dg (tv 4) 1 : Int), .int .i64 (dg (tv 4) 2 : Int), .int .i64 (dg (tv 4) 3 : Int)]) w by kernel_rfl)
  · exact (show (Instr.index 125 (.agg (arrF 64 (bkG tv))) (.int .i64 5)).run Tryd.prog w = .ok (.agg #[.int .i64 (dg (tv 5) 0 : Int), .int .i64 (dg (tv 5) 1 : Int), .int .i64 (dg (tv 5) 2 : Int), .int .i64 (dg (tv 5) 3 : Int)]) w by kernel_rfl)
  · exact (show (Instr.index 125 (.agg (arrF 64 (bkG tv))) (.int .i64 6)).run Tryd.prog w = .ok (.agg #[.int .i64 (dg (tv 6) 0 : Int), .int .i64 (dg (tv 6) 1 : Int), .int .i64 (dg (tv 6) 2 : Int), .int .i64 (dg (tv 6) 3 : Int)]) w by kernel_rfl)
  · exact (show (Instr.index 125 (.agg (arrF 64 (bkG tv))) (.int .i64 7)).run Tryd.prog w = .ok (.agg #[.int .i64 (dg (tv 7) 0 : Int), .int .i64 (dg (tv 7) 1 : Int), .int .i64 (dg (tv 7) 2 : Int), .int .i64 (dg (tv 7) 3 : Int)]) w by kernel_rfl)
  · exact (show (Instr.index 125 (.agg (arrF 64 (bkG tv))) (.int .i64 8)).run Tryd.prog w = .ok (.agg #[.int .i64 (dg (tv 8) 0 : Int), .int .i64 (dg (tv 8) 1 : Int), .int .i64 (dg (tv 8) 2 : Int), .int .i64 (dg (tv 8) 3 : Int)]) w by kernel_rfl)
  · exact (show (Instr.index 125 (.agg (arrF 64 (bkG tv))) (.int .i64 9)).run Tryd.prog w = .ok (.agg #[.int .i64 (dg (tv 9) 0 : Int), .int .i64 (dg (tv 9) 1 : Int), .int .i64 (dg (tv 9) 2 : Int), .int .i64 (dg (tv 9) 3 : Int)]) w by kernel_rfl)
  · exact (show (Instr.index 125 (.agg (arrF 64 (bkG tv))) (.int .i64 10)).run Tryd.prog w = .ok (.agg #[.int .i64 (dg (tv 10) 0 : Int), .int .i64 (dg (tv 10) 1 : Int), .int .i64 (dg (tv 10) 2 : Int), .int .i64 (dg (tv 10) 3 : Int)]) w by kernel_rfl)
  · exact (show (Instr.index 125 (.agg (arrF 64 (bkG tv))) (.int .i64 11)).run Tryd.prog w = .ok (.agg #[.int .i64 (dg (tv 11) 0 : Int), .int .i64 (dg (tv 11) 1 : Int), .int .i64 (dg (tv 11) 2 : Int), .int .i64 (dg (tv 11) 3 : Int)]) w by kernel_rfl)
  · exact (show (Instr.index 125 (.agg (arrF 64 (bkG tv))) (.int .i64 12)).run Tryd.prog w = .ok (.agg #[.int .i64 (dg (tv 12) 0 : Int), .int .i64 (dg (tv 12) 1 : Int), .int .i64 (dg (tv 12) 2 : Int), .int .i64 (dg (tv 12) 3 : Int)]) w by kernel_rfl)
  · exact (show (Instr.index 125 (.agg (arrF 64 (bkG tv))) (.int .i64 13)).run Tryd.prog w = .ok (.agg #[.int .i64 (dg (tv 13) 0 : Int), .int .i64 (dg (tv 13) 1 : Int), .int .i64 (dg (tv 13) 2 : Int), .int .i64 (dg (tv 13) 3 : Int)]) w by kernel_rfl)
  · exact (show (Instr.index 125 (.agg (arrF 64 (bkG tv))) (.int .i64 14)).run Tryd.prog w = .ok (.agg #[.int .i64 (dg (tv 14) 0 : Int), .int .i64 (dg (tv 14) 1 : Int), .int .i64 (dg (tv 14) 2 : Int), .int .i64 (dg (tv 14) 3 : Int)]) w by kernel_rfl)
  · exact (show (Instr.index 125 (.agg (arrF 64 (bkG tv))) (.int .i64 15)).run Tryd.prog w = .ok (.agg #[.int .i64 (dg (tv 15) 0 : Int), .int .i64 (dg (tv 15) 1 : Int), .int .i64 (dg (tv 15) 2 : Int), .int .i64 (dg (tv 15) 3 : Int)]) w by kernel_rfl)
def ones4 (n : Nat) : Nat := dg n 0 + dg n 1 + dg n 2 + dg n 3
def keepB (tv : Nat → Nat) : Bool := (List.range 16).all fun j => ones4 j == ones4 (tv j)
theorem keep_true {tv : Nat → Nat} (h : ∀ j, j < 16 → ones4 j = ones4 (tv j)) : keepB tv = true := by
  unfold keepB
  rw [List.all_eq_true]
  intro j hj
  rw [h j (List.mem_range.1 hj)]; simp
theorem keep_false {tv : Nat → Nat} {i : Nat} (hi : i < 16) (h : ones4 i ≠ ones4 (tv i)) : keepB tv = false := by
  cases hk : keepB tv with
  | false => rfl
  | true =>
    unfold keepB at hk
    have := List.all_eq_true.1 hk i (List.mem_range.2 hi)
    simp at this
    exact absurd this h
def FlagPost (b : Bool) (w : World) (e : Ending) (w' : World) : Prop := e = .returned (.tuple #[.bool b, .nilIface]) ∧ Below w.heap.size w w'
set_option maxRecDepth 100000 in
set_option maxHeartbeats 6400000 in
theorem keeps_good (t : List Int) (a : Option Addr) (c : Nat) (tv : Nat → Nat) (w : World) (hP : ArgP w t a 16 c) (h0 : tabE t = 0) (hT : TbB w a tv) : Calls Tryd.prog 28 #[.slice a 16 c] w (FlagPost (keepB tv) w) := by
  have CC := hide' (Check_B t a 16 c w hP)
  rw [h0, show errOf 0 = .nilIface from rfl] at CC
  have BC := hide' (fun (V : World) (h : Below w.heap.size w V) => becomesB_any a c tv V (hT.below h))
  have HL := hide' hT.lt
  clear hP hT h0
  go_enter Tryd.func28, Tryd.ntmps28
  go_wp2_with fail
  refine CC.out.mono ?_
  rintro e w2 ⟨rfl, b2⟩
  have B2 := hide' b2
  clear b2
  go_wp2_with fail
  refine (BC.out w2 B2.out).mono ?_
  rintro e w3 ⟨rfl, b3⟩
  have B3 := hide' (B2.out.trans (b3.mono B2.out.size))
  have IX := hide' (fun i hi w => index_blk tv i hi w)
  obtain ⟨Zb, hZb⟩ : ∃ Z, arrF 64 (bkG tv) = Z := ⟨_, rfl⟩
  rw [hZb] at IX ⊢
  clear b3 hZb
  go_wp2
  go_loopw [14] (fun iv wr => ∃ (i : Nat), iv = .int .i64 (i : Int) ∧ i ≤ 16 ∧ Hid (Below w.heap.size w wr) ∧ Hid (∀ j, j < i → ones4 j = ones4 (tv j))) (fun iv _ => 16 - (intOf iv).toNat)
  case atStart => exact ⟨0, rfl, by omega, B3, hide' (fun j h => by omega)⟩
  case round =>
    obtain ⟨i, rfl, hi, HB, HA⟩ := hrel
    by_cases d : (i : Int) < 16
    · have il : i < 16 := by omega
      have ix := IX.out i il
      have LT := HL.out i il
      obtain ⟨y0, hy0⟩ : ∃ y, dg (tv i) 0 = y := ⟨_, rfl⟩
      obtain ⟨z0, hz0⟩ : ∃ y, dg i 0 = y := ⟨_, rfl⟩
      have yl0 : y0 ≤ 1 := by rw [← hy0]; exact dg_le _ _
      have zl0 : z0 ≤ 1 := by rw [← hz0]; exact dg_le _ _
      obtain ⟨y1, hy1⟩ : ∃ y, dg (tv i) 1 = y := ⟨_, rfl⟩
      obtain ⟨z1, hz1⟩ : ∃ y, dg i 1 = y := ⟨_, rfl⟩
      have yl1 : y1 ≤ 1 := by rw [← hy1]; exact dg_le _ _
      have zl1 : z1 ≤ 1 := by rw [← hz1]; exact dg_le _ _
      obtain ⟨y2, hy2⟩ : ∃ y, dg (tv i) 2 = y := ⟨_, rfl⟩
      obtain ⟨z2, hz2⟩ : ∃ y, dg i 2 = y := ⟨_, rfl⟩
      have yl2 : y2 ≤ 1 := by rw [← hy2]; exact dg_le _ _
      have zl2 : z2 ≤ 1 := by rw [← hz2]; exact dg_le _ _
      obtain ⟨y3, hy3⟩ : ∃ y, dg (tv i) 3 = y := ⟨_, rfl⟩
      obtain ⟨z3, hz3⟩ : ∃ y, dg i 3 = y := ⟨_, rfl⟩
      have yl3 : y3 ≤ 1 := by rw [← hy3]; exact dg_le _ _
      have zl3 : z3 ≤ 1 := by rw [← hz3]; exact dg_le _ _
      rw [hy0, hy1, hy2, hy3] at ix
      have OC := hide' (fun V => show Calls Tryd.prog 66 #[.int .i64 (i : Int)] V (fun e w' => e = .returned (.agg #[.int .i64 (z0 : Int), .int .i64 (z1 : Int), .int .i64 (z2 : Int), .int .i64 (z3 : Int)]) ∧ Below V.heap.size V w') from by
        have t := blockOf_any i V il
        unfold blkV at t
        rw [← dg_0, ← dg_1, ← dg_2, ← dg_3 i il, hz0, hz1, hz2, hz3] at t
        exact t)
      have LZ := hide' (fun V => living_blk z0 z1 z2 z3 V zl0 zl1 zl2 zl3)
      have LY := hide' (fun V => living_blk y0 y1 y2 y3 V yl0 yl1 yl2 yl3)
      obtain ⟨sz, hsz⟩ : ∃ s, z0 + z1 + z2 + z3 = s := ⟨_, rfl⟩
      obtain ⟨sy, hsy⟩ : ∃ s, y0 + y1 + y2 + y3 = s := ⟨_, rfl⟩
      rw [hsz] at LZ
      rw [hsy] at LY
      have OI := hide' (show ones4 i = sz by unfold ones4; rw [hz0, hz1, hz2, hz3]; exact hsz)
      have OT := hide' (show ones4 (tv i) = sy by unfold ones4; rw [hy0, hy1, hy2, hy3]; exact hsy)
      obtain ⟨X, hX⟩ : ∃ X, wr.alloc (.cells #[.int .i64 (y0 : Int), .int .i64 (y1 : Int), .int .i64 (y2 : Int), .int .i64 (y3 : Int)] 124) = X := ⟨_, rfl⟩
      obtain ⟨P, hPP⟩ : ∃ P, wr.heap.size = P := ⟨_, rfl⟩
      have gx : X.heap[P]? = some (.cells #[.int .i64 (y0 : Int), .int .i64 (y1 : Int), .int .i64 (y2 : Int), .int .i64 (y3 : Int)] 124 (0, 0)) := by rw [← hX]; exact heap_atX _ _ _ hPP.symm
      have BX := hide' (show Below w.heap.size w X by rw [← hX]; exact HB.out.alloc HB.out.size _)
      have SW := hide' (fun (V : World) (h : V.heap[P]? = some (.cells #[.int .i64 (y0 : Int), .int .i64 (y1 : Int), .int .i64 (y2 : Int), .int .i64 (y3 : Int)] 124 (0, 0))) => show V.cell? ⟨P, 0, none⟩ = some (.int .i64 (y0 : Int)) ∧ V.cell? ⟨P, 1, none⟩ = some (.int .i64 (y1 : Int)) ∧ V.cell? ⟨P, 2, none⟩ = some (.int .i64 (y2 : Int)) ∧ V.cell? ⟨P, 3, none⟩ = some (.int .i64 (y3 : Int)) from ⟨cell_of_row V _ 0 _ _ _ h, cell_of_row V _ 1 _ _ _ h, cell_of_row V _ 2 _ _ _ h, cell_of_row V _ 3 _ _ _ h⟩)
      have SD := hide' (show X.drew.cell? ⟨P, 0, none⟩ = some (.int .i64 (y0 : Int)) ∧ X.drew.cell? ⟨P, 1, none⟩ = some (.int .i64 (y1 : Int)) ∧ X.drew.cell? ⟨P, 2, none⟩ = some (.int .i64 (y2 : Int)) ∧ X.drew.cell? ⟨P, 3, none⟩ = some (.int .i64 (y3 : Int)) from SW.out X gx)
      have GX := hide' gx
      have BD := hide' (show Below w.heap.size w X.drew from ⟨BX.out.os, BX.out.tape, BX.out.output, BX.out.size, BX.out.block⟩)
      have GD := hide' (show X.drew.heap[P]? = some (.cells #[.int .i64 (y0 : Int), .int .i64 (y1 : Int), .int .i64 (y2 : Int), .int .i64 (y3 : Int)] 124 (0, 0)) from gx)
      clear hy0 hy1 hy2 hy3 hz0 hz1 hz2 hz3 hsz hsy gx LT yl0 yl1 yl2 yl3 zl0 zl1 zl2 zl3
      go_wp2
      try rw [hX]
      try rw [hPP]
      clear hX hPP ix
      go_region_held3 (fun V => V.cell? ⟨P, 0, none⟩ = some (.int .i64 (y0 : Int)) ∧ V.cell? ⟨P, 1, none⟩ = some (.int .i64 (y1 : Int)) ∧ V.cell? ⟨P, 2, none⟩ = some (.int .i64 (y2 : Int)) ∧ V.cell? ⟨P, 3, none⟩ = some (.int .i64 (y3 : Int))) (first | exact SW.out _ g3 | exact SW.out _ g2 | exact SW.out _ g1 | exact SD.out | fail)
        (first
          | (go_at_call 66; refine (OC.out _).mono ?_; rintro e' U1 ⟨rfl, b1⟩; have D1 := hide' (show Below w.heap.size w U1 from by first | exact D3.out.trans (b1.mono D3.out.size) | exact BD.out.trans (b1.mono BD.out.size)); have g1 : U1.heap[P]? = some (.cells #[.int .i64 (y0 : Int), .int .i64 (y1 : Int), .int .i64 (y2 : Int), .int .i64 (y3 : Int)] 124 (0, 0)) := (by first | exact (b1.block _ (lt_of_block g3)).trans g3 | exact (b1.block _ (lt_of_block GD.out)).trans GD.out); clear b1)
          | (go_at_call_of 67 (Value.agg #[.int .i64 (z0 : Int), .int .i64 (z1 : Int), .int .i64 (z2 : Int), .int .i64 (z3 : Int)]); refine (LZ.out _).mono ?_; rintro e' U2 ⟨rfl, b2⟩; have D2 := hide' (show Below w.heap.size w U2 from by first | exact D3.out.trans (b2.mono D3.out.size) | exact D1.out.trans (b2.mono D1.out.size)); have g2 : U2.heap[P]? = some (.cells #[.int .i64 (y0 : Int), .int .i64 (y1 : Int), .int .i64 (y2 : Int), .int .i64 (y3 : Int)] 124 (0, 0)) := (by first | exact (b2.block _ (lt_of_block g3)).trans g3 | exact (b2.block _ (lt_of_block g1)).trans g1); clear b2)
          | (go_at_call_of 67 (Value.agg #[.int .i64 (y0 : Int), .int .i64 (y1 : Int), .int .i64 (y2 : Int), .int .i64 (y3 : Int)]); refine (LY.out _).mono ?_; rintro e' U3 ⟨rfl, b3⟩; have D3 := hide' (show Below w.heap.size w U3 from by first | exact D2.out.trans (b3.mono D2.out.size) | exact D1.out.trans (b3.mono D1.out.size) | exact BD.out.trans (b3.mono BD.out.size)); have g3 : U3.heap[P]? = some (.cells #[.int .i64 (y0 : Int), .int .i64 (y1 : Int), .int .i64 (y2 : Int), .int .i64 (y3 : Int)] 124 (0, 0)) := (by first | exact (b3.block _ (lt_of_block g2)).trans g2 | exact (b3.block _ (lt_of_block g1)).trans g1 | exact (b3.block _ (lt_of_block GD.out)).trans GD.out); clear b3)
          | fail)
      all_goals (
        by_cases eq : sz = sy
        · have ne : ((sz : Int) == (sy : Int)) = true := by simp [eq]
          have nn : ((sz : Int) != (sy : Int)) = false := by simp [eq]
          have HN := hide' (show ∀ j, j < i + 1 → ones4 j = ones4 (tv j) from fun j hj => by
            by_cases ji : j = i
            · rw [ji, OI.out, OT.out, eq]
            · exact HA.out j (by omega))
          clear eq
          go_wp2
          exact ⟨⟨i + 1, by go_num, by omega, (by first | exact D2 | exact D3), HN⟩, by simp [intOf]; omega⟩
        · have ne : ((sz : Int) == (sy : Int)) = false := by simp; omega
          have nn : ((sz : Int) != (sy : Int)) = true := by simp; omega
          have KF := hide' (keep_false il (by rw [OI.out, OT.out]; exact eq))
          clear eq
          go_wp2
          refine bodyPost_ret (v := .tuple #[.bool false, .nilIface]) (by simp [results, Tryd.results28, go_sem]) rfl ?_
          exact ⟨by rw [KF.out], (by first | exact D2.out | exact D3.out)⟩)
    · have i16 : i = 16 := by omega
      subst i16
      have KT := hide' (keep_true HA.out)
      go_wp2
      refine bodyPost_ret (v := .tuple #[.bool true, .nilIface]) (by simp [results, Tryd.results28, go_sem]) rfl ?_
      exact ⟨by rw [KT.out], HB.out⟩
end Go.Proofs.YtfeddccbhmbkmaaDoor

