/-
  What the last text of this claim leans on, part 9: Rk3, Clone.
-/
import Derived.Test.YtljdidimoagnhaaDoorJv8
import Derived.Test.YtljdidimoagnhaaDoorProg
import Derived.Lib.Strings
import Derived.Lib.Walk
import Derived.Lib.BufferWrite
import Derived.Lib.UnsafeStr
import Derived.Lib.Hide
import Derived.Laws.MakeOwn
import Derived.WalkKit
namespace Go.Proofs.YtljdidimoagnhaaDoor
open Go.RowKit
set_option linter.unusedVariables false

/-- What a text of tabled comes to, in one of six ways. -/
theorem tabled_ways (s : ByteArray) :
    (inR s 1 32 32 = false ∧ tabledS s = .inr 1) ∨
    (inR s 1 32 32 = true ∧ numOk s 2 2 4 = false ∧ tabledS s = .inr 2) ∨
    (inR s 1 32 32 = true ∧ numOk s 2 2 4 = true ∧ inR s (num s 2).2 32 32 = false ∧ tabledS s = .inr (num s 2).2) ∨
    (inR s 1 32 32 = true ∧ numOk s 2 2 4 = true ∧ inR s (num s 2).2 32 32 = true ∧ numOk s ((num s 2).2 + 1) 0 2 = false ∧ tabledS s = .inr ((num s 2).2 + 1)) ∨
    (inR s 1 32 32 = true ∧ numOk s 2 2 4 = true ∧ inR s (num s 2).2 32 32 = true ∧ numOk s ((num s 2).2 + 1) 0 2 = true ∧ inR s (num s ((num s 2).2 + 1)).2 32 32 = false ∧ tabledS s = .inr (num s ((num s 2).2 + 1)).2) ∨
    (inR s 1 32 32 = true ∧ numOk s 2 2 4 = true ∧ inR s (num s 2).2 32 32 = true ∧ numOk s ((num s 2).2 + 1) 0 2 = true ∧ inR s (num s ((num s 2).2 + 1)).2 32 32 = true ∧
      tabledS s = tabEnd s (num s 2).1 (num s ((num s 2).2 + 1)).1 (num s ((num s 2).2 + 1)).2) := by
  unfold tabledS
  cases hA : inR s 1 32 32
  · simp
  cases hB : numOk s 2 2 4
  · simp
  cases hC : inR s (num s 2).2 32 32
  · simp
  cases hD : numOk s ((num s 2).2 + 1) 0 2
  · simp
  cases hE : inR s (num s ((num s 2).2 + 1)).2 32 32
  · simp
  · simp

/-- What a call on the reader comes to: the rule, and how far; or the fault's place, by a panic. -/
def Reads (x : (Out × Nat) ⊕ Nat) (b : Nat) (s : ByteArray) (w : World) (e : Ending) (w' : World) : Prop :=
  match x with
  | .inr a => e = .panicked oops ∧ At b s a w' ∧ Rd b w w'
  | .inl (o, p) => ∃ v, e = .returned (o.val v) ∧ Tab w' v o.table ∧ Fresh w v ∧ At b s p w' ∧ Rd b w w' ∧ p ≤ s.size

theorem Reads.bad {b : Nat} {s : ByteArray} {w w' : World} {a : Nat} (ha : At b s a w') (hr : Rd b w w') : Reads (.inr a) b s w (.panicked oops) w' := ⟨rfl, ha, hr⟩

theorem tabF_step {s : ByteArray} {hi : Int} {N k i : Nat} (hk : k < N) (h : inR s i 48 hi = true) : tabF s hi (N - k) i + k = tabF s hi (N - (k + 1)) (i + 1) + (k + 1) := by
  rw [show N - k = (N - (k + 1)) + 1 by omega]
  simp [tabF, h]; omega
theorem tabF_stop {s : ByteArray} {hi : Int} {N k i : Nat} (h : inR s i 48 hi = false) : tabF s hi (N - k) i + k = k := by
  cases N - k <;> simp [tabF, h]

set_option maxHeartbeats 800000 in
theorem tabled_no1 (b : Nat) (s : ByteArray) (w : World) (h : At b s 1 w) (hs : s.size ≤ maxLen) (h1 : 1 ≤ s.size) (hA : inR s 1 32 32 = false) :
    Calls Tryd.prog 188 #[.pointer (some ⟨b, 0, none⟩)] w fun e w' => Reads (.inr 1) b s w e w' := by
  have H0 := hide h
  clear h
  go_enter Tryd.func188, Tryd.ntmps188
  go_wp2_with fail
  refine (expect_no b s 1 32 _ (H0.out.alloc _) (by omega) hA).mono ?_
  rintro e w1 ⟨rfl, a1, r1⟩
  go_wp2
  exact ⟨rfl, Reads.bad a1 r1.un⟩

set_option maxHeartbeats 800000 in
theorem tabled_no2 (b : Nat) (s : ByteArray) (w : World) (h : At b s 1 w) (hs : s.size ≤ maxLen) (h1 : 1 ≤ s.size) (hA : inR s 1 32 32 = true) (hB : numOk s 2 2 4 = false) :
    Calls Tryd.prog 188 #[.pointer (some ⟨b, 0, none⟩)] w fun e w' => Reads (.inr 2) b s w e w' := by
  have H0 := hide h
  clear h
  have b0 := (inR_true.1 hA).1
  go_enter Tryd.func188, Tryd.ntmps188
  go_wp2_with fail
  refine (expect_yes b s 1 32 _ (H0.out.alloc _) hs hA).mono ?_
  rintro e w1 ⟨rfl, a1, r1⟩
  have A1 := hide a1
  clear a1
  go_wp2_with fail
  refine (number_no b s 2 2 4 2 4 _ A1.out hs (by omega) rfl rfl (by omega) hB).mono ?_
  rintro e w2 ⟨rfl, a2, r2⟩
  go_wp2
  exact ⟨rfl, Reads.bad a2 (r1.trans r2).un⟩

set_option maxHeartbeats 800000 in
theorem tabled_no3 (b : Nat) (s : ByteArray) (w : World) (h : At b s 1 w) (hs : s.size ≤ maxLen) (h1 : 1 ≤ s.size) (hA : inR s 1 32 32 = true) (hB : numOk s 2 2 4 = true) (hC : inR s (num s 2).2 32 32 = false) :
    Calls Tryd.prog 188 #[.pointer (some ⟨b, 0, none⟩)] w fun e w' => Reads (.inr (num s 2).2) b s w e w' := by
  have H0 := hide h
  clear h
  have b0 := (inR_true.1 hA).1
  go_enter Tryd.func188, Tryd.ntmps188
  go_wp2_with fail
  refine (expect_yes b s 1 32 _ (H0.out.alloc _) hs hA).mono ?_
  rintro e w1 ⟨rfl, a1, r1⟩
  have A1 := hide a1
  clear a1
  go_wp2_with fail
  refine (number_ok b s 2 2 4 2 4 _ A1.out hs (by omega) rfl rfl (by omega) hB).mono ?_
  rintro e w2 ⟨rfl, a2, r2, l2⟩
  have A2 := hide a2
  clear a2
  go_wp2_with fail
  refine (expect_no b s (num s 2).2 32 _ A2.out (by omega) hC).mono ?_
  rintro e w3 ⟨rfl, a3, r3⟩
  go_wp2
  exact ⟨rfl, Reads.bad a3 ((r1.trans r2).trans r3).un⟩

set_option maxHeartbeats 800000 in
theorem tabled_no4 (b : Nat) (s : ByteArray) (w : World) (h : At b s 1 w) (hs : s.size ≤ maxLen) (h1 : 1 ≤ s.size) (hA : inR s 1 32 32 = true) (hB : numOk s 2 2 4 = true) (hC : inR s (num s 2).2 32 32 = true) (hD : numOk s ((num s 2).2 + 1) 0 2 = false) :
    Calls Tryd.prog 188 #[.pointer (some ⟨b, 0, none⟩)] w fun e w' => Reads (.inr ((num s 2).2 + 1)) b s w e w' := by
  have H0 := hide h
  clear h
  have b0 := (inR_true.1 hA).1
  have b2 := (inR_true.1 hC).1
  go_enter Tryd.func188, Tryd.ntmps188
  go_wp2_with fail
  refine (expect_yes b s 1 32 _ (H0.out.alloc _) hs hA).mono ?_
  rintro e w1 ⟨rfl, a1, r1⟩
  have A1 := hide a1
  clear a1
  go_wp2_with fail
  refine (number_ok b s 2 2 4 2 4 _ A1.out hs (by omega) rfl rfl (by omega) hB).mono ?_
  rintro e w2 ⟨rfl, a2, r2, l2⟩
  have A2 := hide a2
  clear a2
  go_wp2_with fail
  refine (expect_yes b s (num s 2).2 32 _ A2.out hs hC).mono ?_
  rintro e w3 ⟨rfl, a3, r3⟩
  have A3 := hide a3
  clear a3
  go_wp2_with fail
  refine (number_no b s ((num s 2).2 + 1) 0 2 0 2 _ A3.out hs (by omega) rfl rfl (by omega) hD).mono ?_
  rintro e w4 ⟨rfl, a4, r4⟩
  go_wp2
  exact ⟨rfl, Reads.bad a4 (((r1.trans r2).trans r3).trans r4).un⟩

set_option maxHeartbeats 800000 in
theorem tabled_no5 (b : Nat) (s : ByteArray) (w : World) (h : At b s 1 w) (hs : s.size ≤ maxLen) (h1 : 1 ≤ s.size) (hA : inR s 1 32 32 = true) (hB : numOk s 2 2 4 = true) (hC : inR s (num s 2).2 32 32 = true) (hD : numOk s ((num s 2).2 + 1) 0 2 = true) (hE : inR s (num s ((num s 2).2 + 1)).2 32 32 = false) :
    Calls Tryd.prog 188 #[.pointer (some ⟨b, 0, none⟩)] w fun e w' => Reads (.inr (num s ((num s 2).2 + 1)).2) b s w e w' := by
  have H0 := hide h
  clear h
  have b0 := (inR_true.1 hA).1
  have b2 := (inR_true.1 hC).1
  go_enter Tryd.func188, Tryd.ntmps188
  go_wp2_with fail
  refine (expect_yes b s 1 32 _ (H0.out.alloc _) hs hA).mono ?_
  rintro e w1 ⟨rfl, a1, r1⟩
  have A1 := hide a1
  clear a1
  go_wp2_with fail
  refine (number_ok b s 2 2 4 2 4 _ A1.out hs (by omega) rfl rfl (by omega) hB).mono ?_
  rintro e w2 ⟨rfl, a2, r2, l2⟩
  have A2 := hide a2
  clear a2
  go_wp2_with fail
  refine (expect_yes b s (num s 2).2 32 _ A2.out hs hC).mono ?_
  rintro e w3 ⟨rfl, a3, r3⟩
  have A3 := hide a3
  clear a3
  go_wp2_with fail
  refine (number_ok b s ((num s 2).2 + 1) 0 2 0 2 _ A3.out hs (by omega) rfl rfl (by omega) hD).mono ?_
  rintro e w4 ⟨rfl, a4, r4, l4⟩
  have A4 := hide a4
  clear a4
  go_wp2_with fail
  refine (expect_no b s (num s ((num s 2).2 + 1)).2 32 _ A4.out (by omega) hE).mono ?_
  rintro e w5 ⟨rfl, a5, r5⟩
  go_wp2
  exact ⟨rfl, Reads.bad a5 ((((r1.trans r2).trans r3).trans r4).trans r5).un⟩

set_option maxHeartbeats 1600000 in
theorem tabled_last (b : Nat) (s : ByteArray) (w : World) (h : At b s 1 w) (hs : s.size ≤ maxLen) (hA : inR s 1 32 32 = true) (hB : numOk s 2 2 4 = true) (hC : inR s (num s 2).2 32 32 = true) (hD : numOk s ((num s 2).2 + 1) 0 2 = true) (hE : inR s (num s ((num s 2).2 + 1)).2 32 32 = true) :
    Calls Tryd.prog 188 #[.pointer (some ⟨b, 0, none⟩)] w fun e w' => Reads (tabEnd s (num s 2).1 (num s ((num s 2).2 + 1)).1 (num s ((num s 2).2 + 1)).2) b s w e w' := by
  have H0 := hide h
  have hlt := h.lt
  clear h
  have b0 := (inR_true.1 hA).1
  have b2 := (inR_true.1 hC).1
  have b4 := (inR_true.1 hE).1
  have hn := num_le s 2 2 4 hB
  have hm := num_le s ((num s 2).2 + 1) 0 2 hD
  have hent := entOf_small (num s 2).1 (num s ((num s 2).2 + 1)).1 (by omega) (by omega) (by omega)
  obtain ⟨N, hN⟩ : ∃ N, N = entOf (num s 2).1 (num s ((num s 2).2 + 1)).1 := ⟨_, rfl⟩
  have hNl : N ≤ 1024 := by
    have e1 : (num s 2).1 = 2 ∨ (num s 2).1 = 3 ∨ (num s 2).1 = 4 := by omega
    have e2 : (num s ((num s 2).2 + 1)).1 = 0 ∨ (num s ((num s 2).2 + 1)).1 = 1 ∨ (num s ((num s 2).2 + 1)).1 = 2 := by omega
    rw [hN]
    rcases e1 with e1 | e1 | e1 <;> rcases e2 with e2 | e2 | e2 <;> rw [e1, e2] <;> decide
  have HN := hide hN
  have HE := hide (hN.trans hent)
  clear hN hent
  have hmk := run_make_row' (P := Tryd.prog) 22 3 (.int .i64 0) 8 Tryd.underlying22 info_int rfl .i64 .i64 N (by omega) (by omega)
  go_enter Tryd.func188, Tryd.ntmps188
  go_wp2_with fail
  refine (expect_yes b s 1 32 _ (H0.out.alloc _) hs hA).mono ?_
  rintro e w1 ⟨rfl, a1, r1⟩
  have A1 := hide a1
  clear a1
  go_wp2_with fail
  refine (number_ok b s 2 2 4 2 4 _ A1.out hs (by omega) rfl rfl (by omega) hB).mono ?_
  rintro e w2 ⟨rfl, a2, r2, l2⟩
  have A2 := hide a2
  clear a2
  go_wp2_with fail
  refine (expect_yes b s (num s 2).2 32 _ A2.out hs hC).mono ?_
  rintro e w3 ⟨rfl, a3, r3⟩
  have A3 := hide a3
  clear a3
  go_wp2_with fail
  refine (number_ok b s ((num s 2).2 + 1) 0 2 0 2 _ A3.out hs (by omega) rfl rfl (by omega) hD).mono ?_
  rintro e w4 ⟨rfl, a4, r4, l4⟩
  have A4 := hide a4
  clear a4
  go_wp2_with fail
  refine (expect_yes b s (num s ((num s 2).2 + 1)).2 32 _ A4.out hs hE).mono ?_
  rintro e w5 ⟨rfl, a5, r5⟩
  have A5 := hide a5
  clear a5
  go_wp2_with fail
  refine (entries_any (num s 2).1 (num s ((num s 2).2 + 1)).1 _ _ _ rfl rfl (by omega) (by omega) (by omega)).mono ?_
  rw [← unhide HN]
  rintro e w6 ⟨rfl, rfl⟩
  have hz : w.heap.size + 1 ≤ w6.heap.size := by have := ((((r1.trans r2).trans r3).trans r4).trans r5).size; simpa using this
  have hb2 : b < w6.heap.size := by omega
  have F0 := hide (Fill.start w6 N (fun y => (bt s ((num s ((num s 2).2 + 1)).2 + 1 + y) : Int) - 48) (.int .i64 0) 3)
  have A6 := hide (A5.out.alloc (.cells (madeCells #[.int .i64 0] N) 3))
  have R6 := hide (show Rd b (w.alloc (.cells zeroCells 24)) (w6.alloc (.cells (madeCells #[.int .i64 0] N) 3)) from Rd.alloc ((((r1.trans r2).trans r3).trans r4).trans r5) _)
  clear r1 r2 r3 r4 r5 A1 A2 A3 A4
  obtain ⟨X, hX⟩ : ∃ X, X = tabF s (48 + ((num s 2).1 : Int) - 1) N ((num s ((num s 2).2 + 1)).2 + 1) := ⟨_, rfl⟩
  have HX := hide hX
  have HS := hide hs
  clear hX
  unfold maxLen at hs
  go_wp2
  go_loopw [28] (fun iv wr => ∃ k : Nat, iv = .int .i64 (k : Int) ∧ k ≤ N ∧ Fill w6.heap.size N k (fun y => (bt s ((num s ((num s 2).2 + 1)).2 + 1 + y) : Int) - 48) wr ∧ At b s ((num s ((num s 2).2 + 1)).2 + 1 + k) wr ∧ Rd b (w.alloc (.cells zeroCells 24)) wr ∧ tabF s (48 + ((num s 2).1 : Int) - 1) (N - k) ((num s ((num s 2).2 + 1)).2 + 1 + k) + k = X ∧ (num s ((num s 2).2 + 1)).2 + 1 + k ≤ s.size) (fun iv _ => N - (intOf iv).toNat)
  case atStart => exact ⟨0, rfl, by omega, F0.out, A6.out, R6.out, HX.out.symm, by omega⟩
  case round =>
    obtain ⟨k, rfl, hk, fk, ak, rk, xk, bk⟩ := hrel
    clear hmk F0 A6 R6
    have FK := hide fk
    have AK := hide ak
    have RK := hide rk
    have XK := hide xk
    clear xk
    by_cases hkN : (k : Int) < (N : Int)
    · clear fk ak rk
      cases hin : inR s ((num s ((num s 2).2 + 1)).2 + 1 + k) 48 (48 + ((num s 2).1 : Int) - 1) with
      | false =>
        go_wp2_with fail
        refine (take_no b s ((num s ((num s 2).2 + 1)).2 + 1 + k) 48 (48 + ((num s 2).1 : Int) - 1) _ AK.out bk hin).mono ?_
        rintro e w7 ⟨rfl, a7, r7⟩
        go_wp2
        have x1 := XK.out
        rw [tabF_stop hin] at x1
        have x2 := HX.out
        rw [← x1, HE.out] at x2
        have x3 : tabEnd s (num s 2).1 (num s ((num s 2).2 + 1)).1 (num s ((num s 2).2 + 1)).2 = .inr ((num s ((num s 2).2 + 1)).2 + 1 + k) := by
          unfold tabEnd
          rw [if_pos (by rw [← x2, ← HE.out]; omega), ← x2]
        rw [x3]
        exact ⟨rfl, Reads.bad a7 (RK.out.un.trans r7)⟩
      | true =>
        have hlt2 := (inR_true.1 hin).1
        have hb := (inR_true.1 hin).2
        have e2 := bt_lt s ((num s ((num s 2).2 + 1)).2 + 1 + k) hlt2
        go_wp2_with fail
        refine (take_yes b s ((num s ((num s 2).2 + 1)).2 + 1 + k) 48 (48 + ((num s 2).1 : Int) - 1) _ AK.out HS.out hlt2 hin).mono ?_
        rintro e w7 ⟨rfl, a7, r7⟩
        have hne : w6.heap.size ≠ b := by omega
        have F7 := FK.out.rd r7 hne
        have R7 := RK.out.trans r7
        obtain ⟨v, hv, -⟩ := F7.cells k (by omega)
        have hf := F7.fz k
        have F8 := hide F7
        have R8 := hide R7
        have A8 := hide a7
        clear F7 R7 a7 r7
        go_wp2
        refine ⟨⟨k + 1, by go_num, by omega, F8.out.step (by omega), A8.out.setOther (p := ⟨w6.heap.size, k, none⟩) (by simp; omega) _, R8.out.setNew (p := ⟨w6.heap.size, k, none⟩) (by simp; omega) _, ?_, by omega⟩, by simp [intOf]; omega⟩
        exact (tabF_step (by omega) hin).symm.trans XK.out
    · obtain ⟨hc, hf⟩ := rk.made hlt
      have c0 := hc 0
      have c1 := hc 1
      have c2 := hc 2
      have c3 := hc 3
      have c4 := hc 4
      have c5 := hc 5
      have c6 := hc 6
      simp [zeroCells] at c0 c1 c2 c3 c4 c5 c6
      have HK : Hid (k = N) := (by omega : k = N)
      clear hc fk ak rk
      have x1 := XK.out
      rw [HK.out] at x1
      simp [tabF] at x1
      have x2 := HX.out
      rw [← x1] at x2
      have x3 : tabEnd s (num s 2).1 (num s ((num s 2).2 + 1)).1 (num s ((num s 2).2 + 1)).2 = .inl (⟨2, 0, 0, (num s 2).1, (num s ((num s 2).2 + 1)).1, (List.range N).map (fun y => (bt s ((num s ((num s 2).2 + 1)).2 + 1 + y) : Int) - 48), ⟨#[]⟩⟩, (num s ((num s 2).2 + 1)).2 + 1 + N) := by
        unfold tabEnd
        rw [← HE.out, if_neg (by rw [← x2]; omega)]
      have X3 := hide x3
      clear x1 x2 x3
      go_wp2
      refine bodyPost_ret (v := Out.val ⟨2, 0, 0, (num s 2).1, (num s ((num s 2).2 + 1)).1, (List.range N).map (fun y => (bt s ((num s ((num s 2).2 + 1)).2 + 1 + y) : Int) - 48), ⟨#[]⟩⟩ (.slice (some ⟨w6.heap.size, 0, none⟩) N N)) (by simp [results, Tryd.results188, go_sem, Out.val, c0, c1, c2, c3, c4, c5, c6]) rfl ?_
      rw [X3.out]
      have ff := FK.out
      have aa := AK.out
      rw [HK.out] at ff aa bk
      have t := ff.tab (cap := N)
      have hne : ∀ g c, Value.slice (some ⟨w6.heap.size, 0, none⟩) N N = .slice (some ⟨g, 0, none⟩) ((List.range N).map (fun y => (bt s ((num s ((num s 2).2 + 1)).2 + 1 + y) : Int) - 48)).length c → g ≠ w.heap.size := by
        intro g c q; injection q with q1; injection q1 with q2; injection q2 with q3; omega
      exact ⟨_, rfl, ((((((t.other _ hne).other _ hne).other _ hne).other _ hne).other _ hne).other _ hne).other _ hne, Fresh.mk (by omega), set7_at aa (by omega), set7_rd RK.out.un (by omega), bk⟩

theorem tabled_any (b : Nat) (s : ByteArray) (w : World) (h : At b s 1 w) (hs : s.size ≤ maxLen) (h1 : 1 ≤ s.size) :
    Calls Tryd.prog 188 #[.pointer (some ⟨b, 0, none⟩)] w fun e w' => Reads (tabledS s) b s w e w' := by
  rcases tabled_ways s with ⟨a, q⟩ | ⟨a, c, q⟩ | ⟨a, c, d, q⟩ | ⟨a, c, d, e, q⟩ | ⟨a, c, d, e, f, q⟩ | ⟨a, c, d, e, f, q⟩
  · rw [q]; exact tabled_no1 b s w h hs h1 a
  · rw [q]; exact tabled_no2 b s w h hs h1 a c
  · rw [q]; exact tabled_no3 b s w h hs h1 a c d
  · rw [q]; exact tabled_no4 b s w h hs h1 a c d e
  · rw [q]; exact tabled_no5 b s w h hs h1 a c d e f
  · rw [q]; exact tabled_last b s w h hs a c d e f
end Go.Proofs.YtljdidimoagnhaaDoor

namespace Go.Proofs.YtljdidimoagnhaaDoor
open Go.RowKit

theorem info_u8 : (Tryd.prog.info? 5).map (fun i => (i.zero, i.size, i.bytes)) = some (some (.int .u8 0), 1, 1) := by kernel_rfl

set_option maxHeartbeats 4000000 in
set_option maxRecDepth 100000 in
theorem slClone (s : ByteArray) (w : World) (hlim : s.size ≤ 281474976710656) :
    Calls Tryd.prog 222 #[.string s] w fun e w' => e = .returned (.string s) ∧ Below w.heap.size w w' := by
  by_cases h0 : s.size = 0
  · have hs : s = ⟨#[]⟩ := by
      apply ByteArray.ext
      exact Array.eq_empty_of_size_eq_zero h0
    subst hs
    go_enter Tryd.func222, Tryd.ntmps222
    go_wp2
    go_ret
    exact ⟨rfl, Below.refl _ _⟩
  · obtain ⟨i0, hi, hzz⟩ := Option.map_eq_some_iff.1 info_u8
    simp only [Prod.mk.injEq] at hzz
    obtain ⟨hz0, hz1, hz2⟩ := hzz
    have hinfo : (Tryd.prog.info? 5).map (·.size) = some 1 := by rw [hi]; simp [hz1]
    have hco : Tryd.prog.cellsOf 5 = 1 := by simp [Program.cellsOf, hi, hz1]
    obtain ⟨M, hM⟩ : ∃ M, M = madeCells (Value.int .u8 0).cells (((s.size : Nat) : Int).toNat * i0.size) := ⟨_, rfl⟩
    have hMs : M.size = s.size := by rw [hM, size_madeCells, hz1]; simp
    have hmk : ∀ W : World, (Instr.makeSlice 105 (.int .i64 (s.size : Int)) (.int .i64 (s.size : Int))).run Tryd.prog W = .ok (.slice (some ⟨W.heap.size, 0, none⟩) s.size s.size) (W.alloc (.cells M 5)) := fun W => by
      have h := run_make (P := Tryd.prog) W 105 5 i0 (.int .u8 0) Tryd.underlying105 hi hz0 .i64 .i64 (s.size : Int) (s.size : Int) (by omega) (by omega) (by rw [hz2]; omega) (by omega)
      rw [← hM] at h
      simpa using h
    clear hM
    have hcp := Lib.run_copy_row_string (P := Tryd.prog) (w.alloc (.cells M 5)) 105 9 3 5 w.heap.size 0 s.size s.size s M 5 Tryd.underlying105 hinfo (heap_alloc_new w _) (Nat.le_refl _) (by omega)
    obtain ⟨Y, hY⟩ : ∃ Y, Y = (M.toList.take 0 ++ Lib.byteCells s.data.toList ++ M.toList.drop (0 + s.size)).toArray := ⟨_, rfl⟩
    rw [← hY] at hcp
    have hYl : Y.toList = Lib.byteCells s.data.toList := by
      rw [hY, List.toList_toArray, List.take_zero, List.nil_append, List.drop_of_length_le (by rw [Array.length_toList]; omega), List.append_nil]
    have hYs : Y.size = s.size := by rw [← Array.length_toList, hYl, Lib.byteCells_length, ← Lib.size_eq]
    have hgY : ((w.alloc (.cells M 5)).setRow w.heap.size Y).heap[w.heap.size]? = some (.cells Y 5 (0, 0)) := setRow_heap _ _ M _ 5 (0, 0) (heap_alloc_new w _)
    have hne : s.data.toList ≠ [] := fun e => h0 (by rw [Lib.size_eq, e]; rfl)
    have hUS := Lib.run_unsafeString_row (P := Tryd.prog) ((w.alloc (.cells M 5)).setRow w.heap.size Y) 162 3 9 5 Tryd.underlying162 hco w.heap.size Y.size (by unfold World.shape?; rw [hgY]) s.data.toList hne (by rw [← Lib.size_eq]; omega) (by rw [← Lib.size_eq]; omega)
      (fun j x hx => Lib.cells_of_row hgY Y.size j _ (by rw [List.take_of_length_le (by rw [Array.length_toList]; exact Nat.le_refl _), hYl]; simp [Lib.byteCells, hx]))
    rw [← Lib.size_eq] at hUS
    clear hY
    go_enter Tryd.func222, Tryd.ntmps222
    go_wp2
    go_ret
    have hb1 : Below w.heap.size w (w.alloc (.cells M 5)) := (Below.refl _ w).alloc (Nat.le_refl _) _
    have hb2 : Below w.heap.size (w.alloc (.cells M 5)) ((w.alloc (.cells M 5)).setRow w.heap.size Y) := ⟨rfl, rfl, rfl, by simp, fun k hk => setRow_other _ _ _ _ (by omega)⟩
    exact ⟨rfl, Lib.below_freeze (hb1.trans hb2) (p := ⟨w.heap.size, 0, none⟩) (Nat.le_refl _) _⟩

theorem clone_any (t : ByteArray) (w : World) (ht : t.size ≤ 281474976710656) :
    Calls Tryd.prog 210 #[.string t] w fun e w' => e = .returned (.string t) ∧ Below w.heap.size w w' := by
  go_enter Tryd.func210, Tryd.ntmps210
  go_wp2_with fail
  refine (slClone t _ ht).mono ?_
  rintro e w1 ⟨rfl, hb⟩
  go_wp2
  go_ret
  exact ⟨rfl, hb⟩
end Go.Proofs.YtljdidimoagnhaaDoor

