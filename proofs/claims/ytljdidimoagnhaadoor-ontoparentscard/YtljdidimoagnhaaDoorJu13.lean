/-
  What the last text of this claim leans on, part 13: Clone, Rk4.
-/
import Derived.Test.YtljdidimoagnhaaDoorProg
import Derived.Test.YtljdidimoagnhaaDoorJu12
import Derived.Lib.Strings
import Derived.Lib.Walk
import Derived.Lib.BufferWrite
import Derived.Lib.UnsafeStr
import Derived.Lib.Hide
import Derived.Laws.MakeOwn
import Derived.WalkKit
import Derived.Deep.RegionWith
namespace Go.Proofs.YtljdidimoagnhaaDoor
open Go.RowKit

theorem info_u8 : (Tryd.prog.info? 5).map (fun i => (i.zero, i.size, i.bytes)) = some (some (.int .u8 0), 1, 1) := by kernel_rfl

set_option maxHeartbeats 4000000 in
set_option maxRecDepth 100000 in
theorem slClone (s : ByteArray) (w : World) (hlim : s.size ≤ 281474976710656) :
    Calls Tryd.prog 222 #[.string s] w fun e w' => e = .returned (.string s) ∧ Below w.heap.size w w' := by
  by_cases h0 : s.size = 0
  · have hs : s = ⟨#[]⟩ := by
      apply ByteArray.ext
      exact Array.eq_empty_of_size_eq_zero h0
    subst hs
    go_enter Tryd.func222, Tryd.ntmps222
    go_wp2
    go_ret
    exact ⟨rfl, Below.refl _ _⟩
  · obtain ⟨i0, hi, hzz⟩ := Option.map_eq_some_iff.1 info_u8
    simp only [Prod.mk.injEq] at hzz
    obtain ⟨hz0, hz1, hz2⟩ := hzz
    have hinfo : (Tryd.prog.info? 5).map (·.size) = some 1 := by rw [hi]; simp [hz1]
    have hco : Tryd.prog.cellsOf 5 = 1 := by simp [Program.cellsOf, hi, hz1]
    obtain ⟨M, hM⟩ : ∃ M, M = madeCells (Value.int .u8 0).cells (((s.size : Nat) : Int).toNat * i0.size) := ⟨_, rfl⟩
    have hMs : M.size = s.size := by rw [hM, size_madeCells, hz1]; simp
    have hmk : ∀ W : World, (Instr.makeSlice 105 (.int .i64 (s.size : Int)) (.int .i64 (s.size : Int))).run Tryd.prog W = .ok (.slice (some ⟨W.heap.size, 0, none⟩) s.size s.size) (W.alloc (.cells M 5)) := fun W => by
      have h := run_make (P := Tryd.prog) W 105 5 i0 (.int .u8 0) Tryd.underlying105 hi hz0 .i64 .i64 (s.size : Int) (s.size : Int) (by omega) (by omega) (by rw [hz2]; omega) (by omega)
      rw [← hM] at h
      simpa using h
    clear hM
    have hcp := Lib.run_copy_row_string (P := Tryd.prog) (w.alloc (.cells M 5)) 105 9 3 5 w.heap.size 0 s.size s.size s M 5 Tryd.underlying105 hinfo (heap_alloc_new w _) (Nat.le_refl _) (by omega)
    obtain ⟨Y, hY⟩ : ∃ Y, Y = (M.toList.take 0 ++ Lib.byteCells s.data.toList ++ M.toList.drop (0 + s.size)).toArray := ⟨_, rfl⟩
    rw [← hY] at hcp
    have hYl : Y.toList = Lib.byteCells s.data.toList := by
      rw [hY, List.toList_toArray, List.take_zero, List.nil_append, List.drop_of_length_le (by rw [Array.length_toList]; omega), List.append_nil]
    have hYs : Y.size = s.size := by rw [← Array.length_toList, hYl, Lib.byteCells_length, ← Lib.size_eq]
    have hgY : ((w.alloc (.cells M 5)).setRow w.heap.size Y).heap[w.heap.size]? = some (.cells Y 5 (0, 0)) := setRow_heap _ _ M _ 5 (0, 0) (heap_alloc_new w _)
    have hne : s.data.toList ≠ [] := fun e => h0 (by rw [Lib.size_eq, e]; rfl)
    have hUS := Lib.run_unsafeString_row (P := Tryd.prog) ((w.alloc (.cells M 5)).setRow w.heap.size Y) 162 3 9 5 Tryd.underlying162 hco w.heap.size Y.size (by unfold World.shape?; rw [hgY]) s.data.toList hne (by rw [← Lib.size_eq]; omega) (by rw [← Lib.size_eq]; omega)
      (fun j x hx => Lib.cells_of_row hgY Y.size j _ (by rw [List.take_of_length_le (by rw [Array.length_toList]; exact Nat.le_refl _), hYl]; simp [Lib.byteCells, hx]))
    rw [← Lib.size_eq] at hUS
    clear hY
    go_enter Tryd.func222, Tryd.ntmps222
    go_wp2
    go_ret
    have hb1 : Below w.heap.size w (w.alloc (.cells M 5)) := (Below.refl _ w).alloc (Nat.le_refl _) _
    have hb2 : Below w.heap.size (w.alloc (.cells M 5)) ((w.alloc (.cells M 5)).setRow w.heap.size Y) := ⟨rfl, rfl, rfl, by simp, fun k hk => setRow_other _ _ _ _ (by omega)⟩
    exact ⟨rfl, Lib.below_freeze (hb1.trans hb2) (p := ⟨w.heap.size, 0, none⟩) (Nat.le_refl _) _⟩

theorem clone_any (t : ByteArray) (w : World) (ht : t.size ≤ 281474976710656) :
    Calls Tryd.prog 210 #[.string t] w fun e w' => e = .returned (.string t) ∧ Below w.heap.size w w' := by
  go_enter Tryd.func210, Tryd.ntmps210
  go_wp2_with fail
  refine (slClone t _ ht).mono ?_
  rintro e w1 ⟨rfl, hb⟩
  go_wp2
  go_ret
  exact ⟨rfl, hb⟩
end Go.Proofs.YtljdidimoagnhaaDoor

namespace Go.Proofs.YtljdidimoagnhaaDoor
open Go.RowKit
set_option linter.unusedVariables false

set_option maxHeartbeats 800000 in
theorem ant_no1 (b : Nat) (s : ByteArray) (w : World) (h : At b s 1 w) (hs : s.size ≤ maxLen) (h1 : 1 ≤ s.size) (hA : inR s 1 32 32 = false) :
    Calls Tryd.prog 189 #[.pointer (some ⟨b, 0, none⟩)] w fun e w' => Reads (.inr 1) b s w e w' := by
  have H0 := hide h
  clear h
  go_enter Tryd.func189, Tryd.ntmps189
  go_wp2_with fail
  refine (expect_no b s 1 32 _ (H0.out.alloc _) h1 hA).mono ?_
  rintro e w1 ⟨rfl, a1, r1⟩
  go_wp2
  exact ⟨rfl, Reads.bad a1 r1.un⟩

theorem isTurn_any (c : Int) (w : World) :
    Calls Tryd.prog 195 #[.int .u8 c] w fun e w' => e = .returned (.bool (c == 76 || c == 82)) ∧ w' = w := by
  cases h1 : (c == 76)
  · cases h2 : (c == 82)
    · go_enter Tryd.func195, Tryd.ntmps195
      go_wp2
      go_ret
      exact ⟨rfl, rfl⟩
    · go_enter Tryd.func195, Tryd.ntmps195
      go_wp2
      go_ret
      exact ⟨rfl, rfl⟩
  · go_enter Tryd.func195, Tryd.ntmps195
    go_wp2
    go_ret
    exact ⟨rfl, rfl⟩

theorem isTurn_yes (c : Int) (w : World) (h : c = 76 ∨ c = 82) :
    Calls Tryd.prog 195 #[.int .u8 c] w fun e w' => e = .returned (.bool true) ∧ w' = w := by
  refine (isTurn_any c w).mono fun e w' ⟨he, hw⟩ => ⟨?_, hw⟩
  rw [he, show (c == 76 || c == 82) = true by simp; omega]
theorem isTurn_no (c : Int) (w : World) (h : ¬ (c = 76 ∨ c = 82)) :
    Calls Tryd.prog 195 #[.int .u8 c] w fun e w' => e = .returned (.bool false) ∧ w' = w := by
  refine (isTurn_any c w).mono fun e w' ⟨he, hw⟩ => ⟨?_, hw⟩
  rw [he, show (c == 76 || c == 82) = false by simp; omega]

theorem turnF_step {s : ByteArray} {i : Nat} (h2 : i < 28) (hi : i < s.size) (h : bt s i = 76 ∨ bt s i = 82) : turnF s (28 - i) i = turnF s (28 - (i + 1)) (i + 1) := by
  rw [show 28 - i = (28 - (i + 1)) + 1 by omega]
  simp only [turnF]
  rw [if_pos ⟨hi, h⟩]
theorem turnF_stop {s : ByteArray} {i : Nat} (h : ¬ (i < 28 ∧ i < s.size ∧ (bt s i = 76 ∨ bt s i = 82))) : turnF s (28 - i) i = i := by
  by_cases h2 : i < 28
  · rw [show 28 - i = (28 - (i + 1)) + 1 by omega]
    simp only [turnF]
    rw [if_neg (by omega)]
  · rw [show 28 - i = 0 by omega]; rfl

theorem Rd.of_below {b : Nat} {w w' : World} (h : Below w.heap.size w w') : Rd b w w' := ⟨h.os, h.tape, h.output, h.size, fun k hk _ => h.block k hk⟩
theorem At.below {b : Nat} {s : ByteArray} {i : Nat} {w w' : World} (h : At b s i w) (hb : Below w.heap.size w w') : At b s i w' := by
  have e := hb.block b h.lt
  exact ⟨(World.cell?_of_block (w := w) (a := ⟨b, 0, none⟩) e).trans h.txt, (World.cell?_of_block (w := w) (a := ⟨b, 1, none⟩) e).trans h.pos,
    (World.frozen?_of_block (w := w) (a := ⟨b, 0, none⟩) e).trans h.fz0, (World.frozen?_of_block (w := w) (a := ⟨b, 1, none⟩) e).trans h.fz1⟩
theorem At.drew {b : Nat} {s : ByteArray} {i : Nat} {w : World} (h : At b s i w) : At b s i w.drew := ⟨h.txt, h.pos, h.fz0, h.fz1⟩
theorem extract_size (s : ByteArray) (a b : Nat) (h : b ≤ s.size) : (s.extract a b).size ≤ b - a := by simp [ByteArray.size_extract]; omega

set_option maxHeartbeats 1600000 in
theorem ant_yes (b : Nat) (s : ByteArray) (w : World) (h : At b s 1 w) (hs : s.size ≤ maxLen) (hA : inR s 1 32 32 = true) :
    Calls Tryd.prog 189 #[.pointer (some ⟨b, 0, none⟩)] w fun e w' => Reads (antS s) b s w e w' := by
  have hT : antS s = if turnF s 26 2 = 2 then .inr 2 else .inl (⟨3, 0, 0, 0, 0, [], s.extract 2 (turnF s 26 2)⟩, turnF s 26 2) := by
    unfold antS; simp [hA]
  have HT := hide hT
  clear hT
  have H0 := hide h
  have hlt := h.lt
  clear h
  have b0 := (inR_true.1 hA).1
  obtain ⟨J, hJ⟩ : ∃ J, J = turnF s 26 2 := ⟨_, rfl⟩
  have HJ := hide hJ
  have HS := hide hs
  clear hJ
  unfold maxLen at hs
  go_enter Tryd.func189, Tryd.ntmps189
  go_wp2_with fail
  refine (expect_yes b s 1 32 _ (H0.out.alloc _) HS.out hA).mono ?_
  rintro e w1 ⟨rfl, a1, r1⟩
  have a2 : At b s 2 w1 := a1
  have A1 := hide a2
  have R1 := hide (show Rd b (w.alloc (.cells zeroCells 24)) w1 from r1)
  have p1 : w1.cell? ⟨b, 1, none⟩ = some (.int .i64 2) := a2.pos
  clear a1 a2 r1
  go_wp2
  go_loopw [10] (fun _ wr => ∃ i : Nat, 2 ≤ i ∧ i ≤ 28 ∧ i ≤ s.size ∧ At b s i wr ∧ Rd b (w.alloc (.cells zeroCells 24)) wr ∧ turnF s (28 - i) i = J) (fun _ wr => s.size - posOf b wr)
  case atStart => exact ⟨2, by omega, by omega, by omega, A1.out, R1.out, HJ.out.symm⟩
  case round =>
    obtain ⟨i, hi2, hi28, his, ak, rk, jk⟩ := hrel
    have AK := hide ak
    have RK := hide rk
    have JK := hide jk
    obtain ⟨g0, g1, g2, g3⟩ := ak
    clear jk rk p1
    by_cases hc : i < 28 ∧ i < s.size ∧ (bt s i = 76 ∨ bt s i = 82)
    · obtain ⟨c1, c2, c3⟩ := hc
      have c1' : decide ((i : Int) - 2 < 26) = true := by simp; omega
      have e2 := bt_lt s i c2
      have C3 := hide (show ((s[i].toNat : Int) = 76 ∨ (s[i].toNat : Int) = 82) by omega)
      clear c3 e2
      go_wp2
      go_quiet (first | (go_at_call 137; exact Calls.quiet_of (ended_no b s i _ (AK.out.drewN _) c2)) | (go_at_call 195; exact Calls.quiet_of_same (isTurn_yes _ _ C3.out)))
      go_wp2
      rw [show (i : Int) + 1 = ((i + 1 : Nat) : Int) by omega]
      have A2 := (AK.out.drewN nq).go (i + 1)
      refine ⟨⟨i + 1, by omega, by omega, by omega, A2, (RK.out.drewN nq).set _ _, ?_⟩, ?_⟩
      · rw [← turnF_step c1 c2 (by have := bt_lt s i c2; have := C3.out; omega)]; exact JK.out
      · rw [A2.posOf, AK.out.posOf]; omega
    · have x1 := JK.out
      rw [turnF_stop hc] at x1
      have x2 := x1.trans HJ.out
      have hx := extract_size s 2 i his
      have HI := hide his
      by_cases c2 : i < s.size
      · by_cases c1 : i < 28
        · have c1' : decide ((i : Int) - 2 < 26) = true := by simp; omega
          have e2 := bt_lt s i c2
          have C3 := hide (show ¬ ((s[i].toNat : Int) = 76 ∨ (s[i].toNat : Int) = 82) by omega)
          clear e2 hc
          by_cases hz : i = 2
          · have n1 : ((i : Int) == 2) = true := by simp; omega
            have X := hide (show antS s = .inr 2 by rw [HT.out, if_pos (by omega)])
            clear x1 x2 hz
            go_wp2
            go_quiet (first | (go_at_call 137; exact Calls.quiet_of (ended_no b s i _ (AK.out.drewN _) c2)) | (go_at_call 195; exact Calls.quiet_of_same (isTurn_no _ _ C3.out)))
            go_wp2_with fail
            refine (fail_any b s i 2 _ (AK.out.drewN nq)).mono ?_
            rintro e w2 ⟨rfl, a2, r2⟩
            go_wp2
            rw [X.out]
            exact ⟨rfl, Reads.bad a2 ((RK.out.un.drewN nq).trans r2)⟩
          · have n1 : ((i : Int) == 2) = false := by simp; omega
            have X := hide (show antS s = .inl (⟨3, 0, 0, 0, 0, [], s.extract 2 i⟩, i) by rw [HT.out, if_neg (by omega), ← x2])
            clear x1 x2
            go_wp2
            go_quiet (first | (go_at_call 137; exact Calls.quiet_of (ended_no b s i _ (AK.out.drewN _) c2)) | (go_at_call 195; exact Calls.quiet_of_same (isTurn_no _ _ C3.out)))
            go_wp2
            go_region_with (go_at_call 210; refine (clone_any _ _ ?_).mono ?_; omega; rintro e w2 ⟨rfl, hb⟩; have R2 := Rd.trans (show Rd b (w.alloc (.cells zeroCells 24)) _ from by repeat (first | exact RK.out | apply Rd.drewN | apply Rd.drew)) (Rd.of_below hb); have A2 := At.below (show At b s i _ from by repeat (first | exact AK.out | apply At.drewN | apply At.drew)) hb; obtain ⟨hc, hf⟩ := R2.made hlt; have c0 := hc 0; have c1 := hc 1; have c2 := hc 2; have c3 := hc 3; have c4 := hc 4; have c5 := hc 5; have c6 := hc 6; simp [zeroCells] at c0 c1 c2 c3 c4 c5 c6; have R3 := hide R2; have A3 := hide A2; clear hc R2 A2 hb)
            all_goals
              go_wp2
              refine bodyPost_ret (v := Out.val ⟨3, 0, 0, 0, 0, [], s.extract 2 i⟩ (.slice none 0 0)) (by simp [results, Tryd.results189, go_sem, Out.val, c0, c1, c2, c3, c4, c5, c6]) rfl ?_
              rw [X.out]
              exact ⟨_, rfl, Or.inl ⟨rfl, rfl⟩, Fresh.nil _, set7_at A3.out (by omega), set7_rd R3.out.un (by omega), HI.out⟩
        · have c1' : decide ((i : Int) - 2 < 26) = false := by simp; omega
          clear hc
          by_cases hz : i = 2
          · have n1 : ((i : Int) == 2) = true := by simp; omega
            have X := hide (show antS s = .inr 2 by rw [HT.out, if_pos (by omega)])
            clear x1 x2 hz
            go_wp2
            go_quiet ((go_at_call 137; exact Calls.quiet_of (ended_no b s i _ (AK.out.drewN _) c2)))
            go_wp2_with fail
            refine (fail_any b s i 2 _ (AK.out.drewN nq)).mono ?_
            rintro e w2 ⟨rfl, a2, r2⟩
            go_wp2
            rw [X.out]
            exact ⟨rfl, Reads.bad a2 ((RK.out.un.drewN nq).trans r2)⟩
          · have n1 : ((i : Int) == 2) = false := by simp; omega
            have X := hide (show antS s = .inl (⟨3, 0, 0, 0, 0, [], s.extract 2 i⟩, i) by rw [HT.out, if_neg (by omega), ← x2])
            clear x1 x2
            go_wp2
            go_quiet ((go_at_call 137; exact Calls.quiet_of (ended_no b s i _ (AK.out.drewN _) c2)))
            go_wp2
            go_region_with (go_at_call 210; refine (clone_any _ _ ?_).mono ?_; omega; rintro e w2 ⟨rfl, hb⟩; have R2 := Rd.trans (show Rd b (w.alloc (.cells zeroCells 24)) _ from by repeat (first | exact RK.out | apply Rd.drewN | apply Rd.drew)) (Rd.of_below hb); have A2 := At.below (show At b s i _ from by repeat (first | exact AK.out | apply At.drewN | apply At.drew)) hb; obtain ⟨hc, hf⟩ := R2.made hlt; have c0 := hc 0; have c1 := hc 1; have c2 := hc 2; have c3 := hc 3; have c4 := hc 4; have c5 := hc 5; have c6 := hc 6; simp [zeroCells] at c0 c1 c2 c3 c4 c5 c6; have R3 := hide R2; have A3 := hide A2; clear hc R2 A2 hb)
            all_goals
              go_wp2
              refine bodyPost_ret (v := Out.val ⟨3, 0, 0, 0, 0, [], s.extract 2 i⟩ (.slice none 0 0)) (by simp [results, Tryd.results189, go_sem, Out.val, c0, c1, c2, c3, c4, c5, c6]) rfl ?_
              rw [X.out]
              exact ⟨_, rfl, Or.inl ⟨rfl, rfl⟩, Fresh.nil _, set7_at A3.out (by omega), set7_rd R3.out.un (by omega), HI.out⟩
      · have C3 := hide (show i = s.size by omega)
        clear hc
        by_cases hz : i = 2
        · have n1 : ((i : Int) == 2) = true := by simp; omega
          have X := hide (show antS s = .inr 2 by rw [HT.out, if_pos (by omega)])
          clear x1 x2 hz
          go_wp2
          go_quiet ((go_at_call 137; exact Calls.quiet_of (ended_yes b s i _ (AK.out.drewN _) C3.out)))
          go_wp2_with fail
          refine (fail_any b s i 2 _ (AK.out.drewN nq)).mono ?_
          rintro e w2 ⟨rfl, a2, r2⟩
          go_wp2
          rw [X.out]
          exact ⟨rfl, Reads.bad a2 ((RK.out.un.drewN nq).trans r2)⟩
        · have n1 : ((i : Int) == 2) = false := by simp; omega
          have X := hide (show antS s = .inl (⟨3, 0, 0, 0, 0, [], s.extract 2 i⟩, i) by rw [HT.out, if_neg (by omega), ← x2])
          clear x1 x2
          go_wp2
          go_quiet ((go_at_call 137; exact Calls.quiet_of (ended_yes b s i _ (AK.out.drewN _) C3.out)))
          go_wp2
          go_region_with (go_at_call 210; refine (clone_any _ _ ?_).mono ?_; omega; rintro e w2 ⟨rfl, hb⟩; have R2 := Rd.trans (show Rd b (w.alloc (.cells zeroCells 24)) _ from by repeat (first | exact RK.out | apply Rd.drewN | apply Rd.drew)) (Rd.of_below hb); have A2 := At.below (show At b s i _ from by repeat (first | exact AK.out | apply At.drewN | apply At.drew)) hb; obtain ⟨hc, hf⟩ := R2.made hlt; have c0 := hc 0; have c1 := hc 1; have c2 := hc 2; have c3 := hc 3; have c4 := hc 4; have c5 := hc 5; have c6 := hc 6; simp [zeroCells] at c0 c1 c2 c3 c4 c5 c6; have R3 := hide R2; have A3 := hide A2; clear hc R2 A2 hb)
          all_goals
            go_wp2
            refine bodyPost_ret (v := Out.val ⟨3, 0, 0, 0, 0, [], s.extract 2 i⟩ (.slice none 0 0)) (by simp [results, Tryd.results189, go_sem, Out.val, c0, c1, c2, c3, c4, c5, c6]) rfl ?_
            rw [X.out]
            exact ⟨_, rfl, Or.inl ⟨rfl, rfl⟩, Fresh.nil _, set7_at A3.out (by omega), set7_rd R3.out.un (by omega), HI.out⟩

theorem ant_any (b : Nat) (s : ByteArray) (w : World) (h : At b s 1 w) (hs : s.size ≤ maxLen) (h1 : 1 ≤ s.size) :
    Calls Tryd.prog 189 #[.pointer (some ⟨b, 0, none⟩)] w fun e w' => Reads (antS s) b s w e w' := by
  cases hA : inR s 1 32 32 with
  | true => exact ant_yes b s w h hs hA
  | false =>
    rw [show antS s = .inr 1 by unfold antS; simp [hA]]
    exact ant_no1 b s w h hs h1 hA
end Go.Proofs.YtljdidimoagnhaaDoor

