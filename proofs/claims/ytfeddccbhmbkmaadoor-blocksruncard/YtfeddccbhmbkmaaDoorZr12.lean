/-
  What the last text of this claim leans on, part 12: Bkb.
-/
import Derived.Test.YtfeddccbhmbkmaaDoorZr9
import Derived.Test.YtfeddccbhmbkmaaDoorZr10
import Derived.Test.YtfeddccbhmbkmaaDoorZr11
namespace Go.Proofs.YtfeddccbhmbkmaaDoor
open Go.RowKit
set_option linter.unusedVariables false
set_option maxRecDepth 100000 in
theorem back_bad (t : List Int) (a : Option Addr) (n c : Nat) (w : World) (hP : ArgP w t a n c) (h0 : tabE t ≠ 0) : Calls Tryd.prog 26 #[.slice a n c] w fun e w' => e = .returned (.tuple #[.slice none 0 0, errOf (tabE t)]) ∧ Below w.heap.size w w' := by
  have CC := hide' (Check_B t a n c w hP)
  obtain ⟨f, hf⟩ : ∃ f, tabE t = f := ⟨_, rfl⟩
  rw [hf] at CC h0 ⊢
  have EF := hide' (errOf_posB h0)
  rw [EF.out] at CC
  clear hP h0 hf
  go_enter Tryd.func26, Tryd.ntmps26
  go_wp2_with fail
  refine CC.out.mono ?_
  rintro e w2 ⟨rfl, b2⟩
  go_wp2
  refine bodyPost_ret (v := .tuple #[.slice none 0 0, .iface 83 (.int .i64 (f : Int))]) (by simp [results, Tryd.results26, go_sem]) rfl ?_
  exact ⟨by rw [EF.out], b2⟩
set_option maxRecDepth 100000 in
theorem keeps_bad (t : List Int) (a : Option Addr) (n c : Nat) (w : World) (hP : ArgP w t a n c) (h0 : tabE t ≠ 0) : Calls Tryd.prog 28 #[.slice a n c] w fun e w' => e = .returned (.tuple #[.bool false, errOf (tabE t)]) ∧ Below w.heap.size w w' := by
  have CC := hide' (Check_B t a n c w hP)
  obtain ⟨f, hf⟩ : ∃ f, tabE t = f := ⟨_, rfl⟩
  rw [hf] at CC h0 ⊢
  have EF := hide' (errOf_posB h0)
  rw [EF.out] at CC
  clear hP h0 hf
  go_enter Tryd.func28, Tryd.ntmps28
  go_wp2_with fail
  refine CC.out.mono ?_
  rintro e w2 ⟨rfl, b2⟩
  go_wp2
  refine bodyPost_ret (v := .tuple #[.bool false, .iface 83 (.int .i64 (f : Int))]) (by simp [results, Tryd.results28, go_sem]) rfl ?_
  exact ⟨by rw [EF.out], b2⟩
set_option maxRecDepth 100000 in
theorem turns_bad (t : List Int) (a : Option Addr) (n c : Nat) (w : World) (hP : ArgP w t a n c) (h0 : tabE t ≠ 0) : Calls Tryd.prog 29 #[.slice a n c] w fun e w' => e = .returned (.tuple #[.bool false, errOf (tabE t)]) ∧ Below w.heap.size w w' := by
  have CC := hide' (Check_B t a n c w hP)
  obtain ⟨f, hf⟩ : ∃ f, tabE t = f := ⟨_, rfl⟩
  rw [hf] at CC h0 ⊢
  have EF := hide' (errOf_posB h0)
  rw [EF.out] at CC
  clear hP h0 hf
  go_enter Tryd.func29, Tryd.ntmps29
  go_wp2_with fail
  refine CC.out.mono ?_
  rintro e w2 ⟨rfl, b2⟩
  go_wp2
  refine bodyPost_ret (v := .tuple #[.bool false, .iface 83 (.int .i64 (f : Int))]) (by simp [results, Tryd.results29, go_sem]) rfl ?_
  exact ⟨by rw [EF.out], b2⟩
set_option maxRecDepth 100000 in
theorem step_zero (v : Value) (g gb : Nat) (w : World) : Calls Tryd.prog 65 #[v, .slice (some ⟨g, 0, none⟩) 0 0, .pointer (some ⟨gb, 0, none⟩)] w fun e w' => e = .returned (.tuple #[]) ∧ w' = w := by
  go_enter Tryd.func65, Tryd.ntmps65
  go_wp2
  go_loopw [13] (fun iv wr => iv = .int .i64 0 ∧ wr = w) (fun iv _ => 0)
  case atStart => exact ⟨rfl, rfl⟩
  case round =>
    obtain ⟨rfl, rfl⟩ := hrel
    go_wp2
    go_end0
    exact ⟨rfl, rfl⟩
theorem step_append_none {ops : Array Oper} {o : Oper} {a : Act} {w : World} {K : Act → World → Prop} {Q : Exit → Act → World → Prop} {E : Prop} {a0 : Option Addr} {c : Nat} (hgd : o.guard = none) (s x : Operand)
    (ho : o.op = .call { callee := .builtin .append, args := #[s, x], argTypes := #[22, 22] }) (ht : o.type = 22) (hs : a.eval s = .slice none 0 0) (hx : a.eval x = .slice a0 0 c)
    (hrun : ∀ w, (Builtin.append_ #[22, 22] 22 #[.slice none 0 0, .slice a0 0 c]).run Tryd.prog w = .ok (.slice none 0 0) w) (h : K (a.put o.dst (.slice none 0 0)) w) :
    if Region.wanted o (yielded ops a.tmps) = true then Oper.wp Tryd.prog o a w K Q else E := by
  have hw : Region.wanted o (yielded ops a.tmps) = true := by simp [Region.wanted, hgd]
  rw [if_pos hw]
  unfold Oper.wp
  simp [execOp, ho, ht, resolve, invoke, builtin, hs, hx, hrun, Result.andThen]
  exact h
theorem cut2P {A B : Type} {P Φ : A → B → Prop} {G : Prop} (h : (∀ a b, P a b → Φ a b) → G) (k : ∀ a b, P a b → Φ a b) : G := h k
def RunNil (W H : Nat) (w : World) (e : Ending) (w' : World) : Prop := e = .returned (.tuple #[.agg #[.int .i64 (W : Int), .int .i64 (H : Int), .slice none 0 0], .nilIface]) ∧ Below w.heap.size w w'
structure R4z (w w2 V : World) (W H pO : Nat) : Prop where
  keep : ∀ k, k < w2.heap.size → V.heap[k]? = w2.heap[k]?
  pat : V.heap[pO]? = some (.cells #[.int .i64 (W : Int), .int .i64 (H : Int), .slice none 0 0] 26 (0, 0))
  po : w2.heap.size ≤ pO
  below : Below w.heap.size w V
set_option maxRecDepth 100000 in
set_option maxHeartbeats 12800000 in
theorem run_none (t : List Int) (b : Option Addr) (d : Nat) (W H V U : Nat) (a0 : Option Addr) (c : Nat) (ph k : Nat) (tv : Nat → Nat) (w : World) (hT : ArgP w t b 16 d) (hP : ArgP w [] a0 0 c) (hE : runE t (W : Int) (H : Int) [] (ph : Int) (k : Int) = 0) (e : Evn W H V U) (hp : ph ≤ 1) (hW : W ≤ 100) (hH : H ≤ 100) (hk : k ≤ 100000) (hTB : TbB w b tv) (n0 : W * H = 0) :
    Calls Tryd.prog 24 #[.slice b 16 d, .agg #[.int .i64 (W : Int), .int .i64 (H : Int), .slice a0 0 c], .int .i64 (ph : Int), .int .i64 (k : Int)] w (RunNil W H w) := by
  obtain ⟨w1, hw1⟩ : ∃ w1, (w.alloc (.cells #[.int .i64 (W : Int), .int .i64 (H : Int), .slice a0 0 c] 26)).alloc (.cells #[.int .i64 0, .int .i64 0, .slice none 0 0] 26) = w1 := ⟨_, rfl⟩
  have BB := hide' (show Below w.heap.size w w1 by rw [← hw1]; exact ((Below.refl _ _).alloc (Nat.le_refl _) _).alloc (by simp) _)
  have g0 : w1.heap[w.heap.size]? = some (.cells #[.int .i64 (W : Int), .int .i64 (H : Int), .slice a0 0 c] 26 (0, 0)) := by rw [← hw1, Below.heap_alloc _ _ _ (by simp)]; exact heap_alloc_new _ _
  have G1 := hide' (show w1.heap[w.heap.size + 1]? = some (.cells #[.int .i64 0, .int .i64 0, .slice none 0 0] 26 (0, 0)) by rw [← hw1]; exact heap_atX _ _ _ (by simp))
  have G0 := hide' g0
  have x0 := cell_of_row w1 _ 0 _ _ _ g0
  have x1 := cell_of_row w1 _ 1 _ _ _ g0
  have x2 := cell_of_row w1 _ 2 _ _ _ g0
  simp at x0 x1 x2
  have CC := hide' (checkRun_any t b 16 d (W : Int) (H : Int) [] a0 0 c (ph : Int) (k : Int) w1 (hT.below BB.out) (hP.below BB.out))
  rw [hE, show errOf 0 = .nilIface from rfl] at CC
  have TBB := hide' (fun (V : World) (h : Below w.heap.size w V) => hTB.below h)
  obtain ⟨i0, hi, hz0, hz1, hz2⟩ := info_parts info_intB
  have HN := hide' n0
  have hrun : ∀ w, (Builtin.append_ #[22, 22] 22 #[.slice none 0 0, .slice a0 0 c]).run Tryd.prog w = .ok (.slice none 0 0) w := fun w => by
    cases a0 with
    | none => simp [Builtin.append_, run_underlying Tryd.underlying22, sizeOf, typeInfo, hi, Builtin.lenOf, Builtin.firstCells]
    | some ad => simp [Builtin.append_, run_underlying Tryd.underlying22, sizeOf, typeInfo, hi, Builtin.lenOf, Builtin.firstCells, loadCells, loadCellsFrom]
  clear hT hP hE hTB g0 n0
  go_enter Tryd.func24, Tryd.ntmps24
  go_wp2_with fail
  refine CC.out.mono ?_
  rintro e' w2 ⟨rfl, b2⟩
  have B2 := hide' (BB.out.trans (b2.mono BB.out.size))
  have E0 := hide' ((b2.block _ (lt_of_block G0.out)).trans G0.out)
  have E1 := hide' ((b2.block _ (lt_of_block G1.out)).trans G1.out)
  have sl : w.heap.size < w2.heap.size := lt_of_block E0.out
  have SW4 := hide' (fun (V : World) (h : V.heap[w.heap.size]? = some (.cells #[.int .i64 (W : Int), .int .i64 (H : Int), .slice a0 0 c] 26 (0, 0))) => show V.cell? ⟨w.heap.size, 0, none⟩ = some (.int .i64 (W : Int)) ∧ V.cell? ⟨w.heap.size, 1, none⟩ = some (.int .i64 (H : Int)) ∧ V.cell? ⟨w.heap.size, 2, none⟩ = some (.slice a0 0 c) from ⟨cell_of_row V _ 0 _ _ _ h, cell_of_row V _ 1 _ _ _ h, cell_of_row V _ 2 _ _ _ h⟩)
  have SA4 := hide' (show w2.drew.cell? ⟨w.heap.size, 0, none⟩ = some (.int .i64 (W : Int)) ∧ w2.drew.cell? ⟨w.heap.size, 1, none⟩ = some (.int .i64 (H : Int)) ∧ w2.drew.cell? ⟨w.heap.size, 2, none⟩ = some (.slice a0 0 c) from SW4.out w2 E0.out)
  have SB4 := hide' (fun (o : Obj) => show (w2.alloc o).drew.cell? ⟨w.heap.size, 0, none⟩ = some (.int .i64 (W : Int)) ∧ (w2.alloc o).drew.cell? ⟨w.heap.size, 1, none⟩ = some (.int .i64 (H : Int)) ∧ (w2.alloc o).drew.cell? ⟨w.heap.size, 2, none⟩ = some (.slice a0 0 c) from SW4.out (w2.alloc o) ((Below.heap_alloc w2 o _ sl).trans E0.out))
  clear b2 hw1 x0 x1 x2
  go_wp2
  refine cut2P (P := fun pO V => Hid (R4z w w2 V W H pO)) (Φ := ?PH) (fun CUT => ?mn) ?rs
  case mn =>
   go_region_held3 (fun V => V.cell? ⟨w.heap.size, 0, none⟩ = some (.int .i64 (W : Int)) ∧ V.cell? ⟨w.heap.size, 1, none⟩ = some (.int .i64 (H : Int)) ∧ V.cell? ⟨w.heap.size, 2, none⟩ = some (.slice a0 0 c)) (first | exact SA4.out | exact SB4.out _ | fail) (first | (refine step_append_none (by rfl) _ _ (by rfl) (by rfl) (by rfl) (by rfl) hrun ?_) | fail)
   all_goals (
      obtain ⟨V4, hV4⟩ : ∃ V, (w2.alloc (.cells #[.int .i64 (W : Int), .int .i64 (H : Int), .slice none 0 0] 26)).drew = V := ⟨_, rfl⟩
      obtain ⟨pO, hpO⟩ : ∃ p, w2.heap.size = p := ⟨_, rfl⟩
      have T8 := hide' (show R4z w w2 V4 W H pO from ⟨fun k hk => by rw [← hV4]; exact Below.heap_alloc w2 _ _ hk, by rw [← hV4]; exact heap_atX w2 _ _ hpO.symm, by omega, by
        have b := B2.out.alloc (Nat.le_of_lt sl) (.cells #[.int .i64 (W : Int), .int .i64 (H : Int), .slice none 0 0] 26)
        rw [← hV4]; exact ⟨b.os, b.tape, b.output, b.size, b.block⟩⟩)
      rw [hV4, hpO]
      exact CUT _ _ T8)
  case rs =>
   intro pO V4 T8
   have n10 : (0 : Nat) ≤ 10000 := by omega
   have BC := hide' (becomesB_any b d tv V4 (TBB.out V4 T8.out.below))
   go_wp2_with fail
   refine BC.out.mono ?_
   rintro e' w5 ⟨rfl, b5⟩
   obtain ⟨gB, hgB⟩ : ∃ p, w5.heap.size = p := ⟨_, rfl⟩
   obtain ⟨Zb, hZb⟩ : ∃ Z, arrF 64 (bkG tv) = Z := ⟨_, rfl⟩
   have hz : (w5.alloc (.cells #[.int .i64 0, .int .i64 0, .int .i64 0, .int .i64 0, .int .i64 0, .int .i64 0, .int .i64 0, .int .i64 0, .int .i64 0, .int .i64 0, .int .i64 0, .int .i64 0, .int .i64 0, .int .i64 0, .int .i64 0, .int .i64 0, .int .i64 0, .int .i64 0, .int .i64 0, .int .i64 0, .int .i64 0, .int .i64 0, .int .i64 0, .int .i64 0, .int .i64 0, .int .i64 0, .int .i64 0, .int .i64 0, .int .i64 0, .int .i64 0, .int .i64 0, .int .i64 0, .int .i64 0, .int .i64 0, .int .i64 0, .int .i64 0, .int .i64 0, .int .i64 0, .int .i64 0, .int .i64 0, .int .i64 0, .int .i64 0, .int .i64 0, .int .i64 0, .int .i64 0, .int .i64 0, .int .i64 0, .int .i64 0, .int .i64 0, .int .i64 0, .int .i64 0, .int .i64 0, .int .i64 0, .int .i64 0, .int .i64 0, .int .i64 0, .int .i64 0, .int .i64 0, .int .i64 0, .int .i64 0, .int .i64 0, .int .i64 0, .int .i64 0, .int .i64 0] 125)).heap[gB]? = some (.cells #[.int .i64 0, .int .i64 0, .int .i64 0, .int .i64 0, .int .i64 0, .int .i64 0, .int .i64 0, .int .i64 0, .int .i64 0, .int .i64 0, .int .i64 0, .int .i64 0, .int .i64 0, .int .i64 0, .int .i64 0, .int .i64 0, .int .i64 0, .int .i64 0, .int .i64 0, .int .i64 0, .int .i64 0, .int .i64 0, .int .i64 0, .int .i64 0, .int .i64 0, .int .i64 0, .int .i64 0, .int .i64 0, .int .i64 0, .int .i64 0, .int .i64 0, .int .i64 0, .int .i64 0, .int .i64 0, .int .i64 0, .int .i64 0, .int .i64 0, .int .i64 0, .int .i64 0, .int .i64 0, .int .i64 0, .int .i64 0, .int .i64 0, .int .i64 0, .int .i64 0, .int .i64 0, .int .i64 0, .int .i64 0, .int .i64 0, .int .i64 0, .int .i64 0, .int .i64 0, .int .i64 0, .int .i64 0, .int .i64 0, .int .i64 0, .int .i64 0, .int .i64 0, .int .i64 0, .int .i64 0, .int .i64 0, .int .i64 0, .int .i64 0, .int .i64 0] 125 (0, 0)) := by rw [← hgB]; exact heap_alloc_new _ _
   have zs : Zb.size = 64 := by rw [← hZb, arrF_size]
   have za : Zb.all (·.oneCell') = true := by rw [← hZb]; exact arrF_all _ _ (fun k _ => rfl)
   rw [hZb]
   obtain ⟨W5, hW5⟩ : ∃ V, (w5.alloc (.cells #[.int .i64 0, .int .i64 0, .int .i64 0, .int .i64 0, .int .i64 0, .int .i64 0, .int .i64 0, .int .i64 0, .int .i64 0, .int .i64 0, .int .i64 0, .int .i64 0, .int .i64 0, .int .i64 0, .int .i64 0, .int .i64 0, .int .i64 0, .int .i64 0, .int .i64 0, .int .i64 0, .int .i64 0, .int .i64 0, .int .i64 0, .int .i64 0, .int .i64 0, .int .i64 0, .int .i64 0, .int .i64 0, .int .i64 0, .int .i64 0, .int .i64 0, .int .i64 0, .int .i64 0, .int .i64 0, .int .i64 0, .int .i64 0, .int .i64 0, .int .i64 0, .int .i64 0, .int .i64 0, .int .i64 0, .int .i64 0, .int .i64 0, .int .i64 0, .int .i64 0, .int .i64 0, .int .i64 0, .int .i64 0, .int .i64 0, .int .i64 0, .int .i64 0, .int .i64 0, .int .i64 0, .int .i64 0, .int .i64 0, .int .i64 0, .int .i64 0, .int .i64 0, .int .i64 0, .int .i64 0, .int .i64 0, .int .i64 0, .int .i64 0, .int .i64 0] 125)).setRow gB Zb = V := ⟨_, rfl⟩
   have b5' : Below V4.heap.size V4 W5 := by rw [← hW5]; exact below_setRow (b5.alloc b5.size _) (by rw [← hgB]; exact b5.size) _
   have GB := hide' (show W5.heap[gB]? = some (.cells (arrF 64 (bkG tv)) 125 (0, 0)) by rw [← hW5, hZb]; exact setRow_heap _ _ _ _ _ _ hz)
   have GL := hide' (show V4.heap.size ≤ gB by rw [← hgB]; exact b5.size)
   have K5 := hide' (show Kp w V4 W5 from ⟨fun k hk => b5'.block k hk, b5'.size, T8.out.below.trans (b5'.mono T8.out.below.size)⟩)
   have V2 := hide' (show w2.heap.size ≤ V4.heap.size by have := lt_of_block T8.out.pat; have := T8.out.po; omega)
   have E5 := hide' (show W5.heap[w.heap.size]? = some (.cells #[.int .i64 (W : Int), .int .i64 (H : Int), .slice a0 0 c] 26 (0, 0)) from (b5'.block _ (Nat.lt_of_lt_of_le (lt_of_block E0.out) V2.out)).trans ((T8.out.keep _ (lt_of_block E0.out)).trans E0.out))
   have HZB := hide' hZb
   clear b5 b5' hZb
   go_upto_region 6 with (first
     | (refine wpList_store_row rfl 125 _ _ rfl gB Zb rfl rfl 125 _ hz (by rw [zs]; kernel_rfl) (by rw [zs]; rfl) za ?_; rw [hW5]))
   clear hW5 hz zs za hgB
   obtain ⟨N, hN⟩ : ∃ N, U * V = N := ⟨_, rfl⟩
   have SC0 := hide' (fun Y => standing_any W H V U ph a0 c Y e hp hW hH)
   have SC1 := hide' (fun Y => standing_any W H V U (1 - ph) a0 c Y e (by omega) hW hH)
   rw [HN.out, hN] at SC0 SC1
   unfold StandPost at SC0 SC1
   have q1 : (1 : Int) - (ph : Int) = ((1 - ph : Nat) : Int) := by omega
   obtain ⟨qh, hqh⟩ : ∃ q, 1 - ph = q := ⟨_, rfl⟩
   rw [hqh] at SC1 q1
   have q2 : IntKind.i64.wrap (qh : Int) = (qh : Int) := wrap_nB _ (by omega)
   have q1' : IntKind.i64.wrap (1 - (ph : Int)) = (qh : Int) := by rw [q1]; exact wrap_nB _ (by omega)
   have K6 := hide' (show Kp w W5 W5 from ⟨fun _ _ => rfl, Nat.le_refl _, K5.out.below⟩)
   have w5l := lt_of_block E5.out
   have SW := hide' (fun (V : World) (h : V.heap[w.heap.size]? = some (.cells #[.int .i64 (W : Int), .int .i64 (H : Int), .slice a0 0 c] 26 (0, 0))) => show V.cell? ⟨w.heap.size, 0, none⟩ = some (.int .i64 (W : Int)) ∧ V.cell? ⟨w.heap.size, 1, none⟩ = some (.int .i64 (H : Int)) ∧ V.cell? ⟨w.heap.size, 2, none⟩ = some (.slice a0 0 c) from ⟨cell_of_row V _ 0 _ _ _ h, cell_of_row V _ 1 _ _ _ h, cell_of_row V _ 2 _ _ _ h⟩)
   have SA := hide' (show W5.drew.cell? ⟨w.heap.size, 0, none⟩ = some (.int .i64 (W : Int)) ∧ W5.drew.cell? ⟨w.heap.size, 1, none⟩ = some (.int .i64 (H : Int)) ∧ W5.drew.cell? ⟨w.heap.size, 2, none⟩ = some (.slice a0 0 c) from SW.out W5 E5.out)
   have SB := hide' (fun (o : Obj) => show (W5.alloc o).drew.cell? ⟨w.heap.size, 0, none⟩ = some (.int .i64 (W : Int)) ∧ (W5.alloc o).drew.cell? ⟨w.heap.size, 1, none⟩ = some (.int .i64 (H : Int)) ∧ (W5.alloc o).drew.cell? ⟨w.heap.size, 2, none⟩ = some (.slice a0 0 c) from SW.out (W5.alloc o) ((Below.heap_alloc W5 o _ w5l).trans E5.out))
   have EQ := hide' hqh
   have HNN := hide' hN
   clear hN hqh
   refine cut4P (P := fun pS g0 g1 V => Hid (R6 w W5 V W H ph qh N pS g0 g1)) (Φ := ?PH2) (fun CUT => ?mn2) ?rs2
   case mn2 =>
     go_region_held3 (fun V => V.cell? ⟨w.heap.size, 0, none⟩ = some (.int .i64 (W : Int)) ∧ V.cell? ⟨w.heap.size, 1, none⟩ = some (.int .i64 (H : Int)) ∧ V.cell? ⟨w.heap.size, 2, none⟩ = some (.slice a0 0 c)) (first | exact SW.out _ ((two_oth (show w.heap.size ≠ _ by have := ZP.out; omega) _ _).trans fp) | exact SW.out _ fp | exact SW.out _ ((Below.heap_alloc _ _ _ sl1).trans fp) | exact SA.out | exact SB.out _ | fail)
       (first | (go_at_call_of 64 (Value.int .i64 (ph : Int)); refine (SC0.out _).mono ?_; rintro e' U0 ⟨g0, hg0, rfl, hs0, b0⟩; have K0 := hide' (show Kp w W5 U0 ∧ W5.heap.size ≤ g0 from by first | exact K1.out.1.call b0 hg0 | exact (K1.out.1.alloc _).call b0 hg0 | exact K6.out.drew.call b0 hg0 | exact (K6.out.alloc _).drew.call b0 hg0); have Q0 := hide' hs0; (try (have P1 := hide' (show U0.heap[g1]? = _ from by first | exact (b0.block _ (lt_of_block Q1.out)).trans Q1.out | exact (b0.block _ (lt_of_block ((Below.heap_alloc U1 _ _ (lt_of_block Q1.out)).trans Q1.out))).trans ((Below.heap_alloc U1 _ _ (lt_of_block Q1.out)).trans Q1.out)))); (try (have zz := (b0.block U1.heap.size (by simp)).trans (heap_atX U1 (.cells #[.slice none 0 0, .slice none 0 0] 129) _ rfl); have ZP := hide' (show W5.heap.size ≤ U1.heap.size from K1.out.1.size); have ZZ := hide' zz; have k0 := cell_of_row U0 _ 0 _ _ _ zz; have k1 := cell_of_row U0 _ 1 _ _ _ zz; simp at k0 k1; have z0 := frozen_of_row U0 _ 0 _ _ zz; have z1 := frozen_of_row U0 _ 1 _ _ zz)); (try (have zw := (b0.block W5.heap.size (by simp [World.drew])).trans (heap_atX W5 (.cells #[.slice none 0 0, .slice none 0 0] 129) _ rfl); have ZP := hide' (show W5.heap.size ≤ W5.heap.size from Nat.le_refl _); have ZW := hide' zw; have ZZ := hide' zw; have k0 := cell_of_row U0 _ 0 _ _ _ zw; have k1 := cell_of_row U0 _ 1 _ _ _ zw; simp at k0 k1; have z0 := frozen_of_row U0 _ 0 _ _ zw; have z1 := frozen_of_row U0 _ 1 _ _ zw)); (try (have zv := (b0.block _ (lt_of_block ZW.out)).trans ZW.out; have ZZ := hide' zv; have k0 := cell_of_row U0 _ 0 _ _ _ zv; have k1 := cell_of_row U0 _ 1 _ _ _ zv; simp at k0 k1; have z0 := frozen_of_row U0 _ 0 _ _ zv; have z1 := frozen_of_row U0 _ 1 _ _ zv)); have fp : U0.heap[w.heap.size]? = some (.cells #[.int .i64 (W : Int), .int .i64 (H : Int), .slice a0 0 c] 26 (0, 0)) := (K0.out.1.keep _ w5l).trans E5.out; have sl1 := lt_of_block fp; clear hs0) | (go_at_call_of 64 (Value.int .i64 (qh : Int)); refine (SC1.out _).mono ?_; rintro e' U1 ⟨g1, hg1, rfl, hs1, b1⟩; have K1 := hide' (show Kp w W5 U1 ∧ W5.heap.size ≤ g1 from by first | exact K0.out.1.call b1 hg1 | exact (K0.out.1.alloc _).call b1 hg1 | exact K6.out.drew.call b1 hg1 | exact (K6.out.alloc _).drew.call b1 hg1); have Q1 := hide' hs1; (try (have P0 := hide' (show U1.heap[g0]? = _ from by first | exact (b1.block _ (lt_of_block Q0.out)).trans Q0.out | exact (b1.block _ (lt_of_block ((Below.heap_alloc U0 _ _ (lt_of_block Q0.out)).trans Q0.out))).trans ((Below.heap_alloc U0 _ _ (lt_of_block Q0.out)).trans Q0.out)))); (try (have zz := (b1.block U0.heap.size (by simp)).trans (heap_atX U0 (.cells #[.slice none 0 0, .slice none 0 0] 129) _ rfl); have ZP := hide' (show W5.heap.size ≤ U0.heap.size from K0.out.1.size); have ZZ := hide' zz; have k0 := cell_of_row U1 _ 0 _ _ _ zz; have k1 := cell_of_row U1 _ 1 _ _ _ zz; simp at k0 k1; have z0 := frozen_of_row U1 _ 0 _ _ zz; have z1 := frozen_of_row U1 _ 1 _ _ zz)); (try (have zw := (b1.block W5.heap.size (by simp [World.drew])).trans (heap_atX W5 (.cells #[.slice none 0 0, .slice none 0 0] 129) _ rfl); have ZP := hide' (show W5.heap.size ≤ W5.heap.size from Nat.le_refl _); have ZW := hide' zw; have ZZ := hide' zw; have k0 := cell_of_row U1 _ 0 _ _ _ zw; have k1 := cell_of_row U1 _ 1 _ _ _ zw; simp at k0 k1; have z0 := frozen_of_row U1 _ 0 _ _ zw; have z1 := frozen_of_row U1 _ 1 _ _ zw)); (try (have zv := (b1.block _ (lt_of_block ZW.out)).trans ZW.out; have ZZ := hide' zv; have k0 := cell_of_row U1 _ 0 _ _ _ zv; have k1 := cell_of_row U1 _ 1 _ _ _ zv; simp at k0 k1; have z0 := frozen_of_row U1 _ 0 _ _ zv; have z1 := frozen_of_row U1 _ 1 _ _ zv)); have fp : U1.heap[w.heap.size]? = some (.cells #[.int .i64 (W : Int), .int .i64 (H : Int), .slice a0 0 c] 26 (0, 0)) := (K1.out.1.keep _ w5l).trans E5.out; have sl1 := lt_of_block fp; clear hs1) | fail)
     all_goals first
       | (obtain ⟨V6, hV⟩ : ∃ V, U1.alloc (.cells #[.slice (some ⟨g0, 0, none⟩) N N, .slice (some ⟨g1, 0, none⟩) N N] 129) = V := ⟨_, rfl⟩; obtain ⟨pS, hpS⟩ : ∃ p, U1.heap.size = p := ⟨_, rfl⟩; have T9 := hide' (show R6 w W5 V6 W H ph qh N pS g0 g1 from by rw [← hV, ← hpS]; exact R6.of_alloc K1.out.1 P0.out Q1.out K0.out.2 K1.out.2); rw [hV, hpS]; exact CUT _ _ _ _ T9)
       | (obtain ⟨V6, hV⟩ : ∃ V, U0.alloc (.cells #[.slice (some ⟨g0, 0, none⟩) N N, .slice (some ⟨g1, 0, none⟩) N N] 129) = V := ⟨_, rfl⟩; obtain ⟨pS, hpS⟩ : ∃ p, U0.heap.size = p := ⟨_, rfl⟩; have T9 := hide' (show R6 w W5 V6 W H ph qh N pS g0 g1 from by rw [← hV, ← hpS]; exact R6.of_alloc K0.out.1 Q0.out P1.out K0.out.2 K1.out.2); rw [hV, hpS]; exact CUT _ _ _ _ T9)
       | (obtain ⟨V6, hV⟩ : ∃ V, (U1.setCell ⟨U0.heap.size, 0, none⟩ (.slice (some ⟨g0, 0, none⟩) N N)).setCell ⟨U0.heap.size, 1, none⟩ (.slice (some ⟨g1, 0, none⟩) N N) = V := ⟨_, rfl⟩; obtain ⟨pS, hpS⟩ : ∃ p, U0.heap.size = p := ⟨_, rfl⟩; have T9 := hide' (show R6 w W5 V6 W H ph qh N pS g0 g1 from by rw [← hV, ← hpS]; exact R6.of_set K1.out.1 P0.out Q1.out K0.out.2 K1.out.2 ZZ.out ZP.out (Nat.le_of_lt w5l)); rw [hV, hpS]; exact CUT _ _ _ _ T9)
       | (obtain ⟨V6, hV⟩ : ∃ V, (U0.setCell ⟨U1.heap.size, 0, none⟩ (.slice (some ⟨g0, 0, none⟩) N N)).setCell ⟨U1.heap.size, 1, none⟩ (.slice (some ⟨g1, 0, none⟩) N N) = V := ⟨_, rfl⟩; obtain ⟨pS, hpS⟩ : ∃ p, U1.heap.size = p := ⟨_, rfl⟩; have T9 := hide' (show R6 w W5 V6 W H ph qh N pS g0 g1 from by rw [← hV, ← hpS]; exact R6.of_set K0.out.1 Q0.out P1.out K0.out.2 K1.out.2 ZZ.out ZP.out (Nat.le_of_lt w5l)); rw [hV, hpS]; exact CUT _ _ _ _ T9)
       | (obtain ⟨V6, hV⟩ : ∃ V, (U1.setCell ⟨W5.heap.size, 0, none⟩ (.slice (some ⟨g0, 0, none⟩) N N)).setCell ⟨W5.heap.size, 1, none⟩ (.slice (some ⟨g1, 0, none⟩) N N) = V := ⟨_, rfl⟩; obtain ⟨pS, hpS⟩ : ∃ p, W5.heap.size = p := ⟨_, rfl⟩; have T9 := hide' (show R6 w W5 V6 W H ph qh N pS g0 g1 from by rw [← hV, ← hpS]; exact R6.of_set K1.out.1 P0.out Q1.out K0.out.2 K1.out.2 ZZ.out ZP.out (Nat.le_of_lt w5l)); rw [hV, hpS]; exact CUT _ _ _ _ T9)
       | (obtain ⟨V6, hV⟩ : ∃ V, (U0.setCell ⟨W5.heap.size, 0, none⟩ (.slice (some ⟨g0, 0, none⟩) N N)).setCell ⟨W5.heap.size, 1, none⟩ (.slice (some ⟨g1, 0, none⟩) N N) = V := ⟨_, rfl⟩; obtain ⟨pS, hpS⟩ : ∃ p, W5.heap.size = p := ⟨_, rfl⟩; have T9 := hide' (show R6 w W5 V6 W H ph qh N pS g0 g1 from by rw [← hV, ← hpS]; exact R6.of_set K0.out.1 Q0.out P1.out K0.out.2 K1.out.2 ZZ.out ZP.out (Nat.le_of_lt w5l)); rw [hV, hpS]; exact CUT _ _ _ _ T9)
   case rs2 =>
     intro pS g0 g1 V6 T9
     have N0 := hide' (show N = 0 by
       rw [← HNN.out]
       have h1 := HN.out
       rw [e.w, e.h, Nat.mul_mul_mul_comm] at h1
       rw [Nat.mul_comm U V]
       omega)
     have PO := hide' (show V6.heap[pO]? = _ from (T9.out.kp.keep _ (Nat.lt_of_lt_of_le (lt_of_block T8.out.pat) K5.out.size)).trans ((K5.out.keep _ (lt_of_block T8.out.pat)).trans T8.out.pat))
     have RES := hide' (show V6.heap[w.heap.size + 1]? = some (.cells #[.int .i64 0, .int .i64 0, .slice none 0 0] 26 (0, 0)) from (T9.out.kp.keep _ (Nat.lt_of_lt_of_le (Nat.lt_of_lt_of_le (lt_of_block E1.out) V2.out) K5.out.size)).trans ((K5.out.keep _ (Nat.lt_of_lt_of_le (lt_of_block E1.out) V2.out)).trans ((T8.out.keep _ (lt_of_block E1.out)).trans E1.out)))
     have BW6 := hide' T9.out.kp.below
     have R6P := hide' T9.out.pat
     have STZ := hide' (fun (g : Nat) (V : World) => step_zero (.slice none 0 0) g gB V)
     rw [N0.out] at R6P
     rw [N0.out]
     clear SC0 SC1 q1 q1' q2 SW SA SB K6 w5l
     go_wp2
     go_loopw [43] (fun iv wr => ∃ (i : Nat), iv = .int .i64 (i : Int) ∧ i ≤ k ∧ Hid (Kp w V6 wr)) (fun iv _ => k - (intOf iv).toNat)
     case atStart => exact ⟨0, rfl, by omega, hide' ⟨fun _ _ => rfl, Nat.le_refl _, BW6.out⟩⟩
     case round =>
       obtain ⟨i, rfl, hi', HR⟩ := hrel
       by_cases di : (i : Int) < (k : Int)
       · have a1 := (HR.out.keep _ (lt_of_block PO.out)).trans PO.out
         have a2 := (HR.out.keep _ (lt_of_block R6P.out)).trans R6P.out
         have SD := hide' (show wr.drew.cell? ⟨pO, 2, none⟩ = some (.slice none 0 0) ∧ wr.drew.cell? ⟨pS, 0, none⟩ = some (.slice (some ⟨g0, 0, none⟩) 0 0) ∧ wr.drew.cell? ⟨pS, 1, none⟩ = some (.slice (some ⟨g1, 0, none⟩) 0 0) from ⟨cell_of_row wr _ 2 _ _ _ a1, cell_of_row wr _ 0 _ _ _ a2, cell_of_row wr _ 1 _ _ _ a2⟩)
         have HD := hide' HR.out.drew
         clear a1 a2
         have i2 : i % 2 = 0 ∨ i % 2 = 1 := by omega
         rcases i2 with i2 | i2
         · have r0 : IntKind.i64.wrap ((i : Int).tmod 2) = 0 := by rw [show (i : Int).tmod 2 = 0 by rw [Int.tmod_eq_emod_of_nonneg (by omega)]; omega]; rfl
           have r1 : (i : Int) % 2 = 0 := by omega
           have r2 : (i : Int).tmod 2 = 0 := by rw [Int.tmod_eq_emod_of_nonneg (by omega)]; omega
           clear i2
           go_wp2
           go_region_held3 (fun V => V.cell? ⟨pO, 2, none⟩ = some (.slice none 0 0) ∧ V.cell? ⟨pS, 0, none⟩ = some (.slice (some ⟨g0, 0, none⟩) 0 0) ∧ V.cell? ⟨pS, 1, none⟩ = some (.slice (some ⟨g1, 0, none⟩) 0 0)) (first | exact SD.out | fail)
             (first | (go_at_call 65; refine (STZ.out g0 _).mono ?_; rintro e' w9 ⟨rfl, rfl⟩) | fail)
           go_wp2
           exact ⟨⟨i + 1, by go_num, by omega, HD⟩, by simp [intOf]; omega⟩
         · have r0 : IntKind.i64.wrap ((i : Int).tmod 2) = 1 := by rw [show (i : Int).tmod 2 = 1 by rw [Int.tmod_eq_emod_of_nonneg (by omega)]; omega]; rfl
           have r1 : (i : Int) % 2 = 1 := by omega
           have r2 : (i : Int).tmod 2 = 1 := by rw [Int.tmod_eq_emod_of_nonneg (by omega)]; omega
           clear i2
           go_wp2
           go_region_held3 (fun V => V.cell? ⟨pO, 2, none⟩ = some (.slice none 0 0) ∧ V.cell? ⟨pS, 0, none⟩ = some (.slice (some ⟨g0, 0, none⟩) 0 0) ∧ V.cell? ⟨pS, 1, none⟩ = some (.slice (some ⟨g1, 0, none⟩) 0 0)) (first | exact SD.out | fail)
             (first | (go_at_call 65; refine (STZ.out g1 _).mono ?_; rintro e' w9 ⟨rfl, rfl⟩) | fail)
           go_wp2
           exact ⟨⟨i + 1, by go_num, by omega, HD⟩, by simp [intOf]; omega⟩
       · have a1 := (HR.out.keep _ (lt_of_block PO.out)).trans PO.out
         have a2 := (HR.out.keep _ (lt_of_block RES.out)).trans RES.out
         have x0 := cell_of_row wr _ 0 _ _ _ a1
         have x1 := cell_of_row wr _ 1 _ _ _ a1
         have x2 := cell_of_row wr _ 2 _ _ _ a1
         have r0 := cell_of_row wr _ 0 _ _ _ a2
         have r1 := cell_of_row wr _ 1 _ _ _ a2
         have r2 := cell_of_row wr _ 2 _ _ _ a2
         simp at x0 x1 x2 r0 r1 r2
         have f0 := frozen_of_row wr _ 0 _ _ a2
         have f1 := frozen_of_row wr _ 1 _ _ a2
         have f2 := frozen_of_row wr _ 2 _ _ a2
         have BE := hide' HR.out.below
         clear a1 a2
         go_wp2
         refine bodyPost_ret (v := .tuple #[.agg #[.int .i64 (W : Int), .int .i64 (H : Int), .slice none 0 0], .nilIface]) (by simp [results, Tryd.results24, go_sem, r0, r1, r2]) rfl ?_
         exact ⟨rfl, ((BE.out.setCell (by simp) _).setCell (by simp) _).setCell (by simp) _⟩
end Go.Proofs.YtfeddccbhmbkmaaDoor

