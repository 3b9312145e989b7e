/-
  What the last text of this claim leans on, part 47: LawQ2, LawQ3.
-/
import Derived.Test.YtljdidimoagnhaaDoorJk46
namespace Go.Proofs.YtljdidimoagnhaaDoor
open Go.RowKit
set_option linter.unusedVariables false

set_option maxRecDepth 100000 in
set_option maxHeartbeats 6400000 in
theorem law_rback_err_err (o M : Out) (ra : Option Addr) (rc : Nat) (ws : List Int) (wa : Option Addr) (wc : Nat) (w : World) (hR : ArgR w o ra o.table.length rc) (hW : ArgP w ws wa ws.length wc) (f : Nat) (hP : ∀ wr, Below w.heap.size w wr → Calls Tryd.prog 22 #[.agg #[.int .i64 o.kind, .int .i64 o.born, .int .i64 o.stay, .int .i64 o.states, .int .i64 o.radius, .slice ra o.table.length rc, .string o.turns]] wr (TextErr f wr)) (hM : ∀ wr, Below w.heap.size w wr → Calls Tryd.prog 24 #[.agg #[.int .i64 o.kind, .int .i64 o.born, .int .i64 o.stay, .int .i64 o.states, .int .i64 o.radius, .slice ra o.table.length rc, .string o.turns]] wr (RuleAns M wr)) (hMM : ∀ wr a c, ArgP wr M.table a M.table.length c → Calls Tryd.prog 24 #[.agg #[.int .i64 M.kind, .int .i64 M.born, .int .i64 M.stay, .int .i64 M.states, .int .i64 M.radius, .slice a M.table.length c, .string M.turns]] wr (RuleAns o wr)) (f2 : Nat) (hS : ∀ wr, Below w.heap.size w wr → Calls Tryd.prog 26 #[.agg #[.int .i64 o.kind, .int .i64 o.born, .int .i64 o.stay, .int .i64 o.states, .int .i64 o.radius, .slice ra o.table.length rc, .string o.turns], .slice wa ws.length wc] wr (ListErr f2 wr)) :
    Calls Tryd.prog 5 #[.agg #[.int .i64 o.kind, .int .i64 o.born, .int .i64 o.stay, .int .i64 o.states, .int .i64 o.radius, .slice ra o.table.length rc, .string o.turns], .slice wa ws.length wc] w fun e w' => e = .returned (.bool true) ∧ Below w.heap.size w w' := by
  obtain ⟨w1, hw1⟩ : ∃ w1, w.alloc (.cells #[.int .i64 o.kind, .int .i64 o.born, .int .i64 o.stay, .int .i64 o.states, .int .i64 o.radius, .slice ra o.table.length rc, .string o.turns] 24) = w1 := ⟨_, rfl⟩
  have BB := hide' (show Below w.heap.size w w1 by rw [← hw1]; exact (Below.refl _ _).alloc (Nat.le_refl _) _)
  have RX := hide' (show RBo w.heap.size o (.slice ra o.table.length rc) w1 by rw [← hw1]; exact RBo.new w o _ _)
  have AR := hide' ((show ArgP w o.table ra o.table.length rc from ⟨hR.len, hR.max, hR.cells⟩).below BB.out)
  have OM := hide' hR.max
  have AW := hide' (hW.below BB.out)
  have HP := hide' (fun wr (h : Below w1.heap.size w1 wr) => hP wr (BB.out.trans (h.mono BB.out.size)))
  clear hP
  have HM := hide' (fun wr (h : Below w1.heap.size w1 wr) => hM wr (BB.out.trans (h.mono BB.out.size)))
  clear hM
  have HS := hide' (fun wr (h : Below w1.heap.size w1 wr) => hS wr (BB.out.trans (h.mono BB.out.size)))
  clear hS
  have HMM := hide' hMM
  clear hMM
  clear hR hW
  have C1 := hide' (Below.refl w1.heap.size w1)
  obtain ⟨x0, x1, x2, x3, x4, x5, x6⟩ := RX.out.next C1.out
  go_enter Tryd.func5, Tryd.ntmps5
  go_wp2_with fail
  refine (parse_ok _ _ (by decide) _ fact_parse).mono ?_
  unfold ParsedOk Out.val
  rintro e w2 ⟨v2, rfl, t2, -, b⟩
  clear x0 x1 x2 x3 x4 x5 x6
  clear hw1
  have C2 := hide' (C1.out.trans (b.mono C1.out.size))
  obtain ⟨a2, c2, hv2, -⟩ := Tab.argL (xs := []) t2 (by decide)
  obtain rfl : v2 = .slice a2 0 c2 := hv2
  clear t2
  clear b C1
  have C2' := hide' (C2.out.alloc C2.out.size (.cells #[.int .i64 1, .int .i64 8, .int .i64 12, .int .i64 0, .int .i64 0, .slice a2 0 c2, .string ⟨#[]⟩] 24))
  clear C2
  have C2 := C2'
  clear C2'
  have FB := hide' (S7.new w2 (.int .i64 1) (.int .i64 8) (.int .i64 12) (.int .i64 0) (.int .i64 0) (.slice a2 0 c2) (.string ⟨#[]⟩) 24)
  obtain ⟨x0, x1, x2, x3, x4, x5, x6⟩ := RX.out.next C2.out
  obtain ⟨p0, p1, p2, p3, p4, p5, p6, -⟩ := FB.out
  go_wp2_with fail
  refine (HP.out _ C2.out).mono ?_
  unfold TextErr
  rintro e w3 ⟨rfl, b⟩
  clear p0 p1 p2 p3 p4 p5 p6
  clear x0 x1 x2 x3 x4 x5 x6
  clear FB
  clear HP
  have C3 := hide' (C2.out.trans (b.mono C2.out.size))
  clear b C2
  obtain ⟨x0, x1, x2, x3, x4, x5, x6⟩ := RX.out.next C3.out
  go_wp2_with fail
  refine (HM.out _ C3.out).mono ?_
  unfold RuleAns
  rintro e w4 ⟨a4, c4, rfl, q4, b⟩
  clear x0 x1 x2 x3 x4 x5 x6
  clear HM
  have C4 := hide' (C3.out.trans (b.mono C3.out.size))
  have PM := hide' q4
  clear q4
  clear b C3
  have C4' := hide' (C4.out.alloc C4.out.size (.cells #[.int .i64 M.kind, .int .i64 M.born, .int .i64 M.stay, .int .i64 M.states, .int .i64 M.radius, .slice a4 M.table.length c4, .string M.turns] 24))
  clear C4
  have C4 := C4'
  clear C4'
  have PM' := hide' (PM.out.alloc (.cells #[.int .i64 M.kind, .int .i64 M.born, .int .i64 M.stay, .int .i64 M.states, .int .i64 M.radius, .slice a4 M.table.length c4, .string M.turns] 24))
  clear PM
  have PM := PM'
  clear PM'
  have MB := hide' (S7.new w4 (.int .i64 M.kind) (.int .i64 M.born) (.int .i64 M.stay) (.int .i64 M.states) (.int .i64 M.radius) (.slice a4 M.table.length c4) (.string M.turns) 24)
  obtain ⟨x0, x1, x2, x3, x4, x5, x6⟩ := RX.out.next C4.out
  obtain ⟨p0, p1, p2, p3, p4, p5, p6, -⟩ := MB.out
  go_wp2_with fail
  refine (HMM.out _ _ _ PM.out).mono ?_
  unfold RuleAns
  rintro e w5 ⟨a5, c5, rfl, q5, b⟩
  clear p0 p1 p2 p3 p4 p5 p6
  clear x0 x1 x2 x3 x4 x5 x6
  have C5 := hide' (C4.out.trans (b.mono C4.out.size))
  have MB' := hide' (MB.out.next b)
  clear MB
  have MB := MB'
  clear MB'
  have PM' := hide' (PM.out.below b)
  clear PM
  have PM := PM'
  clear PM'
  have PN := hide' q5
  clear q5 HMM
  clear b C4
  have C5' := hide' (C5.out.alloc C5.out.size (.cells #[.int .i64 o.kind, .int .i64 o.born, .int .i64 o.stay, .int .i64 o.states, .int .i64 o.radius, .slice a5 o.table.length c5, .string o.turns] 24))
  clear C5
  have C5 := C5'
  clear C5'
  have PM' := hide' (PM.out.alloc (.cells #[.int .i64 o.kind, .int .i64 o.born, .int .i64 o.stay, .int .i64 o.states, .int .i64 o.radius, .slice a5 o.table.length c5, .string o.turns] 24))
  clear PM
  have PM := PM'
  clear PM'
  have PN' := hide' (PN.out.alloc (.cells #[.int .i64 o.kind, .int .i64 o.born, .int .i64 o.stay, .int .i64 o.states, .int .i64 o.radius, .slice a5 o.table.length c5, .string o.turns] 24))
  clear PN
  have PN := PN'
  clear PN'
  have MB' := hide' (MB.out.alloc (.cells #[.int .i64 o.kind, .int .i64 o.born, .int .i64 o.stay, .int .i64 o.states, .int .i64 o.radius, .slice a5 o.table.length c5, .string o.turns] 24))
  clear MB
  have MB := MB'
  clear MB'
  have NB := hide' (S7.new w5 (.int .i64 o.kind) (.int .i64 o.born) (.int .i64 o.stay) (.int .i64 o.states) (.int .i64 o.radius) (.slice a5 o.table.length c5) (.string o.turns) 24)
  obtain ⟨x0, x1, x2, x3, x4, x5, x6⟩ := RX.out.next C5.out
  obtain ⟨p0, p1, p2, p3, p4, p5, p6, -⟩ := NB.out
  go_wp2_with fail
  refine (Same_arg o _ _ _ _ _ _ _ PN.out (AR.out.below C5.out)).mono ?_
  rintro e w6 ⟨rfl, b⟩
  clear p0 p1 p2 p3 p4 p5 p6
  clear x0 x1 x2 x3 x4 x5 x6
  clear NB
  clear PN
  have C6 := hide' (C5.out.trans (b.mono C5.out.size))
  have MB' := hide' (MB.out.next b)
  clear MB
  have MB := MB'
  clear MB'
  have PM' := hide' (PM.out.below b)
  clear PM
  have PM := PM'
  clear PM'
  clear b C5
  obtain ⟨x0, x1, x2, x3, x4, x5, x6⟩ := RX.out.next C6.out
  go_wp2_with fail
  refine (HS.out _ C6.out).mono ?_
  unfold ListErr
  rintro e w7 ⟨rfl, b⟩
  clear x0 x1 x2 x3 x4 x5 x6
  clear HS
  have C7 := hide' (C6.out.trans (b.mono C6.out.size))
  have MB' := hide' (MB.out.next b)
  clear MB
  have MB := MB'
  clear MB'
  have PM' := hide' (PM.out.below b)
  clear PM
  have PM := PM'
  clear PM'
  clear b C6
  obtain ⟨x0, x1, x2, x3, x4, x5, x6⟩ := RX.out.next C7.out
  go_wp2
  go_ret
  exact ⟨rfl, BB.out.trans (C7.out.mono BB.out.size)⟩
end Go.Proofs.YtljdidimoagnhaaDoor

namespace Go.Proofs.YtljdidimoagnhaaDoor
open Go.RowKit
set_option linter.unusedVariables false

set_option maxRecDepth 100000 in
set_option maxHeartbeats 6400000 in
theorem law_rback_err_ok (o M : Out) (ra : Option Addr) (rc : Nat) (ws : List Int) (wa : Option Addr) (wc : Nat) (w : World) (hR : ArgR w o ra o.table.length rc) (hW : ArgP w ws wa ws.length wc) (f : Nat) (hP : ∀ wr, Below w.heap.size w wr → Calls Tryd.prog 22 #[.agg #[.int .i64 o.kind, .int .i64 o.born, .int .i64 o.stay, .int .i64 o.states, .int .i64 o.radius, .slice ra o.table.length rc, .string o.turns]] wr (TextErr f wr)) (hM : ∀ wr, Below w.heap.size w wr → Calls Tryd.prog 24 #[.agg #[.int .i64 o.kind, .int .i64 o.born, .int .i64 o.stay, .int .i64 o.states, .int .i64 o.radius, .slice ra o.table.length rc, .string o.turns]] wr (RuleAns M wr)) (hMM : ∀ wr a c, ArgP wr M.table a M.table.length c → Calls Tryd.prog 24 #[.agg #[.int .i64 M.kind, .int .i64 M.born, .int .i64 M.stay, .int .i64 M.states, .int .i64 M.radius, .slice a M.table.length c, .string M.turns]] wr (RuleAns o wr)) (hl : ws.length ≤ 1000) (us xs ys : List Int) (hu : ws.reverse = us) (hx : xs.length = ws.length) (hy : xs.reverse = ys) (hS : ∀ wr, Below w.heap.size w wr → Calls Tryd.prog 26 #[.agg #[.int .i64 o.kind, .int .i64 o.born, .int .i64 o.stay, .int .i64 o.states, .int .i64 o.radius, .slice ra o.table.length rc, .string o.turns], .slice wa ws.length wc] wr (ListPost xs wr)) (hSM : ∀ wr a c wa' wc', ArgP wr M.table a M.table.length c → ArgP wr us wa' us.length wc' → Calls Tryd.prog 26 #[.agg #[.int .i64 M.kind, .int .i64 M.born, .int .i64 M.stay, .int .i64 M.states, .int .i64 M.radius, .slice a M.table.length c, .string M.turns], .slice wa' us.length wc'] wr (ListPost ys wr)) (hF : ∀ wr, Below w.heap.size w wr → Calls Tryd.prog 29 #[.agg #[.int .i64 o.kind, .int .i64 o.born, .int .i64 o.stay, .int .i64 o.states, .int .i64 o.radius, .slice ra o.table.length rc, .string o.turns], .slice wa ws.length wc] wr (FaultNo wr)) :
    Calls Tryd.prog 5 #[.agg #[.int .i64 o.kind, .int .i64 o.born, .int .i64 o.stay, .int .i64 o.states, .int .i64 o.radius, .slice ra o.table.length rc, .string o.turns], .slice wa ws.length wc] w fun e w' => e = .returned (.bool true) ∧ Below w.heap.size w w' := by
  obtain ⟨w1, hw1⟩ : ∃ w1, w.alloc (.cells #[.int .i64 o.kind, .int .i64 o.born, .int .i64 o.stay, .int .i64 o.states, .int .i64 o.radius, .slice ra o.table.length rc, .string o.turns] 24) = w1 := ⟨_, rfl⟩
  have BB := hide' (show Below w.heap.size w w1 by rw [← hw1]; exact (Below.refl _ _).alloc (Nat.le_refl _) _)
  have RX := hide' (show RBo w.heap.size o (.slice ra o.table.length rc) w1 by rw [← hw1]; exact RBo.new w o _ _)
  have AR := hide' ((show ArgP w o.table ra o.table.length rc from ⟨hR.len, hR.max, hR.cells⟩).below BB.out)
  have OM := hide' hR.max
  have AW := hide' (hW.below BB.out)
  have HP := hide' (fun wr (h : Below w1.heap.size w1 wr) => hP wr (BB.out.trans (h.mono BB.out.size)))
  clear hP
  have HM := hide' (fun wr (h : Below w1.heap.size w1 wr) => hM wr (BB.out.trans (h.mono BB.out.size)))
  clear hM
  have HS := hide' (fun wr (h : Below w1.heap.size w1 wr) => hS wr (BB.out.trans (h.mono BB.out.size)))
  clear hS
  have HF := hide' (fun wr (h : Below w1.heap.size w1 wr) => hF wr (BB.out.trans (h.mono BB.out.size)))
  clear hF
  have HMM := hide' hMM
  clear hMM
  have HSM := hide' hSM
  have HU := hide' hu
  have HX := hide' hx
  have HY := hide' hy
  have HLW := hide' hl
  have UM := hide' (show us.length ≤ maxLen by rw [← hu, List.length_reverse]; unfold maxLen; omega)
  have YM := hide' (show ys.length ≤ maxLen by rw [← hy, List.length_reverse, hx]; unfold maxLen; omega)
  have XM := hide' (show xs.length ≤ maxLen by rw [hx]; unfold maxLen; omega)
  clear hSM hu hx hy hl
  clear hR hW
  have C1 := hide' (Below.refl w1.heap.size w1)
  obtain ⟨x0, x1, x2, x3, x4, x5, x6⟩ := RX.out.next C1.out
  go_enter Tryd.func5, Tryd.ntmps5
  go_wp2_with fail
  refine (parse_ok _ _ (by decide) _ fact_parse).mono ?_
  unfold ParsedOk Out.val
  rintro e w2 ⟨v2, rfl, t2, -, b⟩
  clear x0 x1 x2 x3 x4 x5 x6
  clear hw1
  have C2 := hide' (C1.out.trans (b.mono C1.out.size))
  obtain ⟨a2, c2, hv2, -⟩ := Tab.argL (xs := []) t2 (by decide)
  obtain rfl : v2 = .slice a2 0 c2 := hv2
  clear t2
  clear b C1
  have C2' := hide' (C2.out.alloc C2.out.size (.cells #[.int .i64 1, .int .i64 8, .int .i64 12, .int .i64 0, .int .i64 0, .slice a2 0 c2, .string ⟨#[]⟩] 24))
  clear C2
  have C2 := C2'
  clear C2'
  have FB := hide' (S7.new w2 (.int .i64 1) (.int .i64 8) (.int .i64 12) (.int .i64 0) (.int .i64 0) (.slice a2 0 c2) (.string ⟨#[]⟩) 24)
  obtain ⟨x0, x1, x2, x3, x4, x5, x6⟩ := RX.out.next C2.out
  obtain ⟨p0, p1, p2, p3, p4, p5, p6, -⟩ := FB.out
  go_wp2_with fail
  refine (HP.out _ C2.out).mono ?_
  unfold TextErr
  rintro e w3 ⟨rfl, b⟩
  clear p0 p1 p2 p3 p4 p5 p6
  clear x0 x1 x2 x3 x4 x5 x6
  clear FB
  clear HP
  have C3 := hide' (C2.out.trans (b.mono C2.out.size))
  clear b C2
  obtain ⟨x0, x1, x2, x3, x4, x5, x6⟩ := RX.out.next C3.out
  go_wp2_with fail
  refine (HM.out _ C3.out).mono ?_
  unfold RuleAns
  rintro e w4 ⟨a4, c4, rfl, q4, b⟩
  clear x0 x1 x2 x3 x4 x5 x6
  clear HM
  have C4 := hide' (C3.out.trans (b.mono C3.out.size))
  have PM := hide' q4
  clear q4
  clear b C3
  have C4' := hide' (C4.out.alloc C4.out.size (.cells #[.int .i64 M.kind, .int .i64 M.born, .int .i64 M.stay, .int .i64 M.states, .int .i64 M.radius, .slice a4 M.table.length c4, .string M.turns] 24))
  clear C4
  have C4 := C4'
  clear C4'
  have PM' := hide' (PM.out.alloc (.cells #[.int .i64 M.kind, .int .i64 M.born, .int .i64 M.stay, .int .i64 M.states, .int .i64 M.radius, .slice a4 M.table.length c4, .string M.turns] 24))
  clear PM
  have PM := PM'
  clear PM'
  have MB := hide' (S7.new w4 (.int .i64 M.kind) (.int .i64 M.born) (.int .i64 M.stay) (.int .i64 M.states) (.int .i64 M.radius) (.slice a4 M.table.length c4) (.string M.turns) 24)
  obtain ⟨x0, x1, x2, x3, x4, x5, x6⟩ := RX.out.next C4.out
  obtain ⟨p0, p1, p2, p3, p4, p5, p6, -⟩ := MB.out
  go_wp2_with fail
  refine (HMM.out _ _ _ PM.out).mono ?_
  unfold RuleAns
  rintro e w5 ⟨a5, c5, rfl, q5, b⟩
  clear p0 p1 p2 p3 p4 p5 p6
  clear x0 x1 x2 x3 x4 x5 x6
  have C5 := hide' (C4.out.trans (b.mono C4.out.size))
  have MB' := hide' (MB.out.next b)
  clear MB
  have MB := MB'
  clear MB'
  have PM' := hide' (PM.out.below b)
  clear PM
  have PM := PM'
  clear PM'
  have PN := hide' q5
  clear q5 HMM
  clear b C4
  have C5' := hide' (C5.out.alloc C5.out.size (.cells #[.int .i64 o.kind, .int .i64 o.born, .int .i64 o.stay, .int .i64 o.states, .int .i64 o.radius, .slice a5 o.table.length c5, .string o.turns] 24))
  clear C5
  have C5 := C5'
  clear C5'
  have PM' := hide' (PM.out.alloc (.cells #[.int .i64 o.kind, .int .i64 o.born, .int .i64 o.stay, .int .i64 o.states, .int .i64 o.radius, .slice a5 o.table.length c5, .string o.turns] 24))
  clear PM
  have PM := PM'
  clear PM'
  have PN' := hide' (PN.out.alloc (.cells #[.int .i64 o.kind, .int .i64 o.born, .int .i64 o.stay, .int .i64 o.states, .int .i64 o.radius, .slice a5 o.table.length c5, .string o.turns] 24))
  clear PN
  have PN := PN'
  clear PN'
  have MB' := hide' (MB.out.alloc (.cells #[.int .i64 o.kind, .int .i64 o.born, .int .i64 o.stay, .int .i64 o.states, .int .i64 o.radius, .slice a5 o.table.length c5, .string o.turns] 24))
  clear MB
  have MB := MB'
  clear MB'
  have NB := hide' (S7.new w5 (.int .i64 o.kind) (.int .i64 o.born) (.int .i64 o.stay) (.int .i64 o.states) (.int .i64 o.radius) (.slice a5 o.table.length c5) (.string o.turns) 24)
  obtain ⟨x0, x1, x2, x3, x4, x5, x6⟩ := RX.out.next C5.out
  obtain ⟨p0, p1, p2, p3, p4, p5, p6, -⟩ := NB.out
  go_wp2_with fail
  refine (Same_arg o _ _ _ _ _ _ _ PN.out (AR.out.below C5.out)).mono ?_
  rintro e w6 ⟨rfl, b⟩
  clear p0 p1 p2 p3 p4 p5 p6
  clear x0 x1 x2 x3 x4 x5 x6
  clear NB
  clear PN
  have C6 := hide' (C5.out.trans (b.mono C5.out.size))
  have MB' := hide' (MB.out.next b)
  clear MB
  have MB := MB'
  clear MB'
  have PM' := hide' (PM.out.below b)
  clear PM
  have PM := PM'
  clear PM'
  clear b C5
  obtain ⟨x0, x1, x2, x3, x4, x5, x6⟩ := RX.out.next C6.out
  go_wp2_with fail
  refine (HS.out _ C6.out).mono ?_
  unfold ListPost
  rintro e w7 ⟨v7, rfl, t7, -, b⟩
  clear x0 x1 x2 x3 x4 x5 x6
  clear HS
  have C7 := hide' (C6.out.trans (b.mono C6.out.size))
  have MB' := hide' (MB.out.next b)
  clear MB
  have MB := MB'
  clear MB'
  have PM' := hide' (PM.out.below b)
  clear PM
  have PM := PM'
  clear PM'
  obtain ⟨a7, c7, rfl, q7⟩ := t7.argL XM.out
  have PX := hide' q7
  clear t7 q7
  clear b C6
  obtain ⟨x0, x1, x2, x3, x4, x5, x6⟩ := RX.out.next C7.out
  have KT := hide' (turned_any ws wa wc _ (AW.out.below C7.out) HLW.out)
  rw [HU.out] at KT
  go_wp2_with fail
  refine (KT.out).mono ?_
  unfold ListTurn
  rintro e w8 ⟨v8, rfl, t8, b⟩
  clear x0 x1 x2 x3 x4 x5 x6
  clear KT
  have C8 := hide' (C7.out.trans (b.mono C7.out.size))
  have MB' := hide' (MB.out.next b)
  clear MB
  have MB := MB'
  clear MB'
  have PM' := hide' (PM.out.below b)
  clear PM
  have PM := PM'
  clear PM'
  have PX' := hide' (PX.out.below b)
  clear PX
  have PX := PX'
  clear PX'
  obtain ⟨a8, c8, rfl, q8⟩ := t8.argL UM.out
  have PU := hide' q8
  clear t8 q8
  clear b C7
  obtain ⟨x0, x1, x2, x3, x4, x5, x6⟩ := RX.out.next C8.out
  obtain ⟨p0, p1, p2, p3, p4, p5, p6, -⟩ := MB.out
  go_wp2_with fail
  refine (HSM.out _ _ _ _ _ PM.out PU.out).mono ?_
  unfold ListPost
  rintro e w9 ⟨v9, rfl, t9, -, b⟩
  clear p0 p1 p2 p3 p4 p5 p6
  clear x0 x1 x2 x3 x4 x5 x6
  clear MB
  clear PM
  clear PU
  clear HSM
  have C9 := hide' (C8.out.trans (b.mono C8.out.size))
  have PX' := hide' (PX.out.below b)
  clear PX
  have PX := PX'
  clear PX'
  obtain ⟨a9, c9, rfl, q9⟩ := t9.argL YM.out
  have PY := hide' q9
  clear t9 q9
  clear b C8
  obtain ⟨x0, x1, x2, x3, x4, x5, x6⟩ := RX.out.next C9.out
  have KU := hide' (turned_any xs a7 c7 _ PX.out (by rw [HX.out]; exact HLW.out))
  rw [HY.out] at KU
  go_wp2_with fail
  refine (KU.out).mono ?_
  unfold ListTurn
  rintro e w10 ⟨v10, rfl, t10, b⟩
  clear x0 x1 x2 x3 x4 x5 x6
  clear KU
  clear PX
  have C10 := hide' (C9.out.trans (b.mono C9.out.size))
  have PY' := hide' (PY.out.below b)
  clear PY
  have PY := PY'
  clear PY'
  obtain ⟨a10, c10, rfl, q10⟩ := t10.argL YM.out
  have PZ := hide' q10
  clear t10 q10
  clear b C9
  obtain ⟨x0, x1, x2, x3, x4, x5, x6⟩ := RX.out.next C10.out
  go_wp2_with fail
  refine (Ints_both ys _ _ _ _ _ _ _ PY.out PZ.out).mono ?_
  rintro e w11 ⟨rfl, b⟩
  clear x0 x1 x2 x3 x4 x5 x6
  clear PY
  clear PZ
  have C11 := hide' (C10.out.trans (b.mono C10.out.size))
  clear b C10
  obtain ⟨x0, x1, x2, x3, x4, x5, x6⟩ := RX.out.next C11.out
  go_wp2_with fail
  refine (HF.out _ C11.out).mono ?_
  unfold FaultNo
  rintro e w12 ⟨rfl, b⟩
  clear x0 x1 x2 x3 x4 x5 x6
  clear HF
  have C12 := hide' (C11.out.trans (b.mono C11.out.size))
  clear b C11
  obtain ⟨x0, x1, x2, x3, x4, x5, x6⟩ := RX.out.next C12.out
  go_wp2
  go_ret
  exact ⟨rfl, BB.out.trans (C12.out.mono BB.out.size)⟩
end Go.Proofs.YtljdidimoagnhaaDoor

