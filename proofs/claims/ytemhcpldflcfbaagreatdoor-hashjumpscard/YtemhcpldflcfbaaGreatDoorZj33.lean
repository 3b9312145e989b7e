/-
  What the last text of this claim leans on, part 33: Ho1, Ho2.
-/
import Derived.Test.YtemhcpldflcfbaaGreatDoorZj32
import Derived.Defers
import Derived.Laws.Pointers
import Derived.Laws.LoneSync
import Derived.RegionCalls
namespace Go.Proofs.YtemhcpldflcfbaaGreatDoor
open Go.RowKit
set_option linter.unusedVariables false
theorem race_dis (w : World) : (callFunc 129 #[]).run Tryz.prog w = .ok (.value (.tuple #[])) w := run_call_mark0 Tryz.func129 (by kernel_rfl) (by kernel_rfl) (by kernel_rfl) .disable (by kernel_rfl) w
theorem race_en (w : World) : (callFunc 131 #[]).run Tryz.prog w = .ok (.value (.tuple #[])) w := run_call_mark0 Tryz.func131 (by kernel_rfl) (by kernel_rfl) (by kernel_rfl) .enable (by kernel_rfl) w
theorem race_acq (a : Addr) (w : World) : (callFunc 132 #[.pointer (some a)]).run Tryz.prog w = .ok (.value (.tuple #[])) w := run_call_marked Tryz.func132 (by kernel_rfl) (by kernel_rfl) (by kernel_rfl) .acquire (by kernel_rfl) a w
theorem race_rel (a : Addr) (w : World) : (callFunc 134 #[.pointer (some a)]).run Tryz.prog w = .ok (.value (.tuple #[])) w := run_call_marked Tryz.func134 (by kernel_rfl) (by kernel_rfl) (by kernel_rfl) .releaseMerge (by kernel_rfl) a w
set_option maxRecDepth 100000 in
set_option maxHeartbeats 1600000 in
theorem store_defO (a : Addr) (x : Value) (u : FrameMode) (w : World) (hc : w.cell? a = some x) (hz : w.frozen? a = false) :
  CallsD Tryz.prog 94 #[.pointer (some a), .bool true] u w fun e u' w' => u' = u ∧ (e = .returned (.tuple #[]) ∧ w' = w.drew.setCell a (.int .u32 1)) := by
 have hc' : w.drew.cell? a = some x := by go_simp
 have hz' : w.drew.frozen? a = false := by go_simp
 have hst := run_call_store (P := Tryz.prog) Tryz.func115 (by kernel_rfl) (by kernel_rfl) (by kernel_rfl) (by kernel_rfl) (k := .u32) (y := 1) hc' hz'
 go_enter_d Tryz.func94, Tryz.ntmps94
 go_wp2
 go_region_calls
 all_goals (go_end0; exact ⟨rfl, rfl⟩)
set_option maxRecDepth 100000 in
set_option maxHeartbeats 1600000 in
theorem unlock_in (a : Addr) (w : World) (hc : w.cell? a = some (.int .i32 1)) (hz : w.frozen? a = false) :
  Calls Tryz.prog 114 #[.pointer (some a)] w fun e w' => e = .returned (.tuple #[]) ∧ w' = w.setCell a (.int .i32 0) := by
 have hd := race_dis
 have he := race_en
 have hr := race_rel
 have hadd := run_call_add (P := Tryz.prog) Tryz.func135 (by kernel_rfl) (by kernel_rfl) (by kernel_rfl) .i32 (by kernel_rfl) (y := -1) (s := 0) hc hz (by simp [go_sem]; rfl)
 have hcv := run_convert_to_unsafe (P := Tryz.prog) (src := 231) (dst := 162) Tryz.underlying231 Tryz.underlying162 (by kernel_rfl) hc
 go_enter Tryz.func114, Tryz.ntmps114
 go_wp2
 go_end0
 exact ⟨rfl, rfl⟩
set_option maxRecDepth 100000 in
set_option maxHeartbeats 1600000 in
theorem unlock_defO (a : Addr) (u : FrameMode) (w : World) (hc : w.cell? a = some (.int .i32 1)) (hz : w.frozen? a = false) :
  CallsD Tryz.prog 93 #[.pointer (some a)] u w fun e u' w' => u' = u ∧ (e = .returned (.tuple #[]) ∧ w' = w.setCell a (.int .i32 0)) := by
 have UC := hide' (unlock_in a w hc hz)
 go_enter_d Tryz.func93, Tryz.ntmps93
 go_wp2_with (go_at_call 114; refine UC.out.mono ?_; rintro e w' ⟨rfl, rfl⟩)
 go_end0
 exact ⟨rfl, rfl⟩
set_option maxRecDepth 100000 in
set_option maxHeartbeats 1600000 in
theorem lock_in (a : Addr) (w : World) (hc : w.cell? a = some (.int .i32 0)) (hz : w.frozen? a = false) :
  Calls Tryz.prog 113 #[.pointer (some a)] w fun e w' => e = .returned (.tuple #[]) ∧ w' = w.setCell a (.int .i32 1) := by
 have hd := race_dis
 have he := race_en
 have ha := race_acq
 have hcas := run_call_cas_hit (P := Tryz.prog) Tryz.func130 (by kernel_rfl) (by kernel_rfl) (by kernel_rfl) .i32 (by kernel_rfl) (y := 1) hc hz
 have hc' : (w.setCell a (.int .i32 1)).cell? a = some (.int .i32 1) := World.cell?_setCell_same w a _ hc
 have hcv := run_convert_to_unsafe (P := Tryz.prog) (src := 231) (dst := 162) Tryz.underlying231 Tryz.underlying162 (by kernel_rfl) hc'
 go_enter Tryz.func113, Tryz.ntmps113
 go_wp2
 first | go_end0 | (simp only [Exit.inBlock, Exit.then]; refine bodyPost_ret (results_none rfl _ _ _) rfl ?_) | refine bodyPost_ret (results_none rfl _ _ _) rfl ?_
 exact ⟨rfl, rfl⟩
set_option maxRecDepth 100000 in
set_option maxHeartbeats 1600000 in
theorem lock_freeO (a : Addr) (w : World) (hc : w.cell? a = some (.int .i32 0)) (hz : w.frozen? a = false) :
  Calls Tryz.prog 92 #[.pointer (some a)] w fun e w' => e = .returned (.tuple #[]) ∧ w' = w.setCell a (.int .i32 1) := by
 have LC := hide' (lock_in a w hc hz)
 go_enter Tryz.func92, Tryz.ntmps92
 go_wp2_with (go_at_call 113; refine LC.out.mono ?_; rintro e w' ⟨rfl, rfl⟩)
 go_end0
 exact ⟨rfl, rfl⟩
def FiP (spb born stay : Nat) (w : World) (e : Ending) (w' : World) : Prop := e = .returned (.tuple #[]) ∧ ∃ tb w1, Below w.heap.size w w1 ∧ TtA w1 tb (fun c => tbE born stay c 4) ∧ w.heap.size ≤ tb ∧ tb < w1.heap.size ∧ w' = w1.setCell ⟨spb, 10, none⟩ (.pointer (some ⟨tb, 0, none⟩))
set_option maxRecDepth 100000 in
set_option maxHeartbeats 3200000 in
theorem fill_any (spb : Nat) (born stay : Nat) (pt : Value) (t L fr fd kp : Int) (x7 x8 x10 : Value) (w : World) (hs : w.heap[spb]? = some (.cells #[.int .i64 1, .int .i64 (born : Int), .int .i64 (stay : Int), .int .i64 0, .int .i64 0, .slice none 0 0, .string ⟨#[]⟩, x7, x8, .int .u32 0, x10, pt, .int .i32 t, .int .i64 L, .int .i64 fr, .int .i64 fd, .int .i64 kp] 74 (0, 0))) (hb : born ≤ 511) (ht : stay ≤ 511) :
  Calls Tryz.prog 29 #[.pointer (some ⟨spb, 0, none⟩)] w (FiP spb born stay w) := by
 have HS := hide' hs
 have TC := hide' (tableOf_any born stay 1 0 0 none 0 0 ⟨#[]⟩ w hb ht)
 have c0 := cell_of_row w spb 0 _ _ _ hs
 have c1 := cell_of_row w spb 1 _ _ _ hs
 have c2 := cell_of_row w spb 2 _ _ _ hs
 have c3 := cell_of_row w spb 3 _ _ _ hs
 have c4 := cell_of_row w spb 4 _ _ _ hs
 have c5 := cell_of_row w spb 5 _ _ _ hs
 have c6 := cell_of_row w spb 6 _ _ _ hs
 simp at c0 c1 c2 c3 c4 c5 c6
 clear hs hb ht
 go_enter Tryz.func29, Tryz.ntmps29
 go_wp2_with fail
 refine TC.out.mono ?_
 rintro o w1 ⟨tb, rfl, h1, h2, h3, h4⟩
 have S1 := (h4.block _ (lt_of_block HS.out)).trans HS.out
 have z := cell_of_row w1 spb 10 _ _ _ S1
 have y := frozen_of_row w1 spb 10 _ _ S1
 simp at z
 have FIN := hide' (show FiP spb born stay w (.returned (.tuple #[])) (w1.setCell ⟨spb, 10, none⟩ (.pointer (some ⟨tb, 0, none⟩))) from ⟨rfl, tb, w1, h4, h1, h2, h3, rfl⟩)
 clear h1 h2 h3 h4 S1 c0 c1 c2 c3 c4 c5 c6
 go_wp2
 go_end0
 exact FIN.out
set_option maxRecDepth 100000 in
set_option maxHeartbeats 1600000 in
theorem load_boolO (a : Addr) (w : World) (hc : w.cell? a = some (.int .u32 0)) : Calls Tryz.prog 54 #[.pointer (some a)] w fun e w' => e = .returned (.bool false) ∧ w' = w := by
 have hl := run_call_load (P := Tryz.prog) Tryz.func91 (by kernel_rfl) (by kernel_rfl) (by kernel_rfl) .u32 (by kernel_rfl) (w := w) (a := a) (x := 0) hc
 go_enter Tryz.func54, Tryz.ntmps54
 go_wp2
 go_ret
 exact ⟨rfl, rfl⟩
def DoP (spb born stay : Nat) (pt : Value) (t L fr fd kp : Int) (w : World) (e : Ending) (w' : World) : Prop := e = .returned (.tuple #[]) ∧ ∃ tb, w'.heap[spb]? = some (.cells #[.int .i64 1, .int .i64 (born : Int), .int .i64 (stay : Int), .int .i64 0, .int .i64 0, .slice none 0 0, .string ⟨#[]⟩, .int .u32 1, .int .i32 0, .int .u32 0, .pointer (some ⟨tb, 0, none⟩), pt, .int .i32 t, .int .i64 L, .int .i64 fr, .int .i64 fd, .int .i64 kp] 74 (0, 0)) ∧ TtA w' tb (fun c => tbE born stay c 4) ∧ w.heap.size ≤ tb ∧ tb < w'.heap.size ∧ (w'.os = w.os ∧ w'.tape = w.tape ∧ w'.output = w.output ∧ w.heap.size ≤ w'.heap.size) ∧ ∀ q, q < w.heap.size → q ≠ spb → w'.heap[q]? = w.heap[q]?
set_option maxRecDepth 100000 in
set_option maxHeartbeats 3200000 in
theorem slow_anyO (spb : Nat) (born stay : Nat) (pt : Value) (t L fr fd kp : Int) (x10 : Value) (w : World) (hs : w.heap[spb]? = some (.cells #[.int .i64 1, .int .i64 (born : Int), .int .i64 (stay : Int), .int .i64 0, .int .i64 0, .slice none 0 0, .string ⟨#[]⟩, .int .u32 0, .int .i32 0, .int .u32 0, x10, pt, .int .i32 t, .int .i64 L, .int .i64 fr, .int .i64 fd, .int .i64 kp] 74 (0, 0))) (hb : born ≤ 511) (ht : stay ≤ 511) :
  Calls Tryz.prog 55 #[.pointer (some ⟨spb, 7, none⟩), .func (.func 29) #[.pointer (some ⟨spb, 0, none⟩)] #[]] w (DoP spb born stay pt t L fr fd kp w) := by
 have HS := hide' hs
 have h8 := cell_of_row w spb 8 _ _ _ hs
 have f8 := frozen_of_row w spb 8 _ _ hs
 simp at h8
 have LC := hide' (lock_freeO ⟨spb, 8, none⟩ w h8 f8)
 obtain ⟨w1, hw1⟩ : ∃ x, w.setCell ⟨spb, 8, none⟩ (.int .i32 1) = x := ⟨_, rfl⟩
 rw [hw1] at LC
 have S1 := hide' (show w1.heap[spb]? = some (.cells #[.int .i64 1, .int .i64 (born : Int), .int .i64 (stay : Int), .int .i64 0, .int .i64 0, .slice none 0 0, .string ⟨#[]⟩, .int .u32 0, .int .i32 1, .int .u32 0, x10, pt, .int .i32 t, .int .i64 L, .int .i64 fr, .int .i64 fd, .int .i64 kp] 74 (0, 0)) by rw [← hw1, heap_setCell_same _ _ _ _ _ _ hs]; rfl)
 have E1 := hide' (show (w1.os = w.os ∧ w1.tape = w.tape ∧ w1.output = w.output ∧ w1.heap.size = w.heap.size) ∧ ∀ q, q ≠ spb → w1.heap[q]? = w.heap[q]? by rw [← hw1]; exact ⟨⟨rfl, rfl, rfl, World.size_setCell _ _ _⟩, fun q hq => Below.heap_setCell _ _ _ _ hq⟩)
 have h7 := cell_of_row w1 spb 7 _ _ _ S1.out
 simp at h7
 have LB := hide' (load_boolO ⟨spb, 7, none⟩ w1 h7)
 have FC := hide' (fill_any spb born stay pt t L fr fd kp _ _ _ w1 S1.out hb ht)
 have hnot : ∀ (x : Bool) (w : World), (Op.unary .not (.bool x)).run Tryz.prog w = .ok (.bool (!x)) w := fun _ _ => rfl
 clear hs hw1 hb ht h8 f8 h7
 go_enter_defers Tryz.func55, Tryz.ntmps55
 go_wp2_with (go_at_call 92; refine LC.out.mono ?_; rintro e w' ⟨rfl, e1⟩; rw [e1]; clear e1)
 go_wp2_with (go_at_call 54; refine LB.out.mono ?_; rintro e w' ⟨rfl, e1⟩; rw [e1]; clear e1)
 go_wp2_with (go_at_call 29; refine FC.out.mono ?_; rintro e w2 ⟨rfl, tb, w3, b3, t3, l3, m3, e2⟩; have E2 := hide' e2; clear e2)
 have e2 := E2.out
 have S3 := hide' ((b3.block spb (lt_of_block S1.out)).trans S1.out)
 have S2 := hide' (show w2.heap[spb]? = some (.cells #[.int .i64 1, .int .i64 (born : Int), .int .i64 (stay : Int), .int .i64 0, .int .i64 0, .slice none 0 0, .string ⟨#[]⟩, .int .u32 0, .int .i32 1, .int .u32 0, .pointer (some ⟨tb, 0, none⟩), pt, .int .i32 t, .int .i64 L, .int .i64 fr, .int .i64 fd, .int .i64 kp] 74 (0, 0)) by rw [e2, heap_setCell_same _ _ _ _ _ _ S3.out]; rfl)
 have sp := E1.out.1.2.2.2
 have FIN := hide' (show DoP spb born stay pt t L fr fd kp w (.returned (.tuple #[])) ((w2.drew.setCell ⟨spb, 7, none⟩ (.int .u32 1)).setCell ⟨spb, 8, none⟩ (.int .i32 0)) from by
  have lt : spb < w.heap.size := lt_of_block HS.out
  have sb : ∀ q, q ≠ spb → ((w2.drew.setCell ⟨spb, 7, none⟩ (.int .u32 1)).setCell ⟨spb, 8, none⟩ (.int .i32 0)).heap[q]? = w3.heap[q]? := fun q hq => by
   rw [Below.heap_setCell _ _ _ _ (by simpa using hq), Below.heap_setCell _ _ _ _ (by simpa using hq)]
   show w2.heap[q]? = _
   rw [e2, Below.heap_setCell _ _ _ _ (by simpa using hq)]
  have z : ((w2.drew.setCell ⟨spb, 7, none⟩ (.int .u32 1)).setCell ⟨spb, 8, none⟩ (.int .i32 0)).heap.size = w3.heap.size := by
   rw [World.size_setCell, World.size_setCell]
   show w2.heap.size = _
   rw [e2, World.size_setCell]
  have s7 : (w2.drew.setCell ⟨spb, 7, none⟩ (.int .u32 1)).heap[spb]? = some (.cells #[.int .i64 1, .int .i64 (born : Int), .int .i64 (stay : Int), .int .i64 0, .int .i64 0, .slice none 0 0, .string ⟨#[]⟩, .int .u32 1, .int .i32 1, .int .u32 0, .pointer (some ⟨tb, 0, none⟩), pt, .int .i32 t, .int .i64 L, .int .i64 fr, .int .i64 fd, .int .i64 kp] 74 (0, 0)) := by
   rw [heap_setCell_same _ _ _ _ _ _ (show w2.drew.heap[spb]? = _ from S2.out)]; rfl
  refine ⟨rfl, tb, by rw [heap_setCell_same _ _ _ _ _ _ s7]; rfl, ⟨fun c hc => (World.cell?_of_block (a := ⟨tb, c, none⟩) (sb tb (by omega))).trans (t3.cell c hc), t3.low⟩, by omega, by omega, ⟨?_, ?_, ?_, by have := b3.size; omega⟩, fun q h1 h2 => (sb q h2).trans ((b3.block q (by omega)).trans (E1.out.2 q h2))⟩
  ·show w2.os = _; rw [e2]; exact b3.os.trans E1.out.1.1
  ·show w2.tape = _; rw [e2]; exact b3.tape.trans E1.out.1.2.1
  ·show w2.output = _; rw [e2]; exact b3.output.trans E1.out.1.2.2.1)
 have g7 := cell_of_row w2 spb 7 _ _ _ S2.out
 have v7 := frozen_of_row w2 spb 7 _ _ S2.out
 have g8 := cell_of_row w2 spb 8 _ _ _ S2.out
 have v8 := frozen_of_row w2 spb 8 _ _ S2.out
 simp at g7 g8
 clear b3 t3 l3 m3 e2 sp
 go_wp2
 refine leaves_cons (f := 94) (args := #[.pointer (some ⟨spb, 7, none⟩), .bool true]) (by simp) (by simp [go_sem]) ?_
 refine (store_defO ⟨spb, 7, none⟩ (.int .u32 0) .returning w2 g7 v7).mono ?_
 rintro e u' w'' ⟨rfl, rfl, rfl⟩
 refine leaves_cons (f := 93) (args := #[.pointer (some ⟨spb, 8, none⟩)]) (by simp [settle]) (by simp [go_sem]) ?_
 refine (unlock_defO ⟨spb, 8, none⟩ _ _ ?_ (by simp [v8])).mono ?_
 ·refine (World.cell?_setCell_other _ ⟨spb, 7, none⟩ ⟨spb, 8, none⟩ _ (by simp)).trans ?_
  rw [World.cell?_drew]
  exact g8
 rintro e u' w'' ⟨rfl, rfl, rfl⟩
 simp [Leaves, settle, results, Tryz.results55]
 exact FIN.out
set_option maxRecDepth 100000 in
set_option maxHeartbeats 3200000 in
theorem do_anyO (spb : Nat) (born stay : Nat) (pt : Value) (t L fr fd kp : Int) (x10 : Value) (w : World) (hs : w.heap[spb]? = some (.cells #[.int .i64 1, .int .i64 (born : Int), .int .i64 (stay : Int), .int .i64 0, .int .i64 0, .slice none 0 0, .string ⟨#[]⟩, .int .u32 0, .int .i32 0, .int .u32 0, x10, pt, .int .i32 t, .int .i64 L, .int .i64 fr, .int .i64 fd, .int .i64 kp] 74 (0, 0))) (hb : born ≤ 511) (ht : stay ≤ 511) :
  Calls Tryz.prog 28 #[.pointer (some ⟨spb, 7, none⟩), .func (.func 29) #[.pointer (some ⟨spb, 0, none⟩)] #[]] w (DoP spb born stay pt t L fr fd kp w) := by
 have h7 := cell_of_row w spb 7 _ _ _ hs
 simp at h7
 have LB := hide' (load_boolO ⟨spb, 7, none⟩ w h7)
 have SL := hide' (slow_anyO spb born stay pt t L fr fd kp x10 w hs hb ht)
 have hnot : ∀ (x : Bool) (w : World), (Op.unary .not (.bool x)).run Tryz.prog w = .ok (.bool (!x)) w := fun _ _ => rfl
 clear hs hb ht h7
 go_enter Tryz.func28, Tryz.ntmps28
 go_wp2_with (go_at_call 54; refine LB.out.mono ?_; rintro e w' ⟨rfl, e1⟩; rw [e1]; clear e1)
 go_wp2_with fail
 refine SL.out.mono ?_
 rintro e w2 ⟨rfl, h2⟩
 go_wp2
 go_end0
 exact ⟨rfl, h2⟩
end Go.Proofs.YtemhcpldflcfbaaGreatDoor
