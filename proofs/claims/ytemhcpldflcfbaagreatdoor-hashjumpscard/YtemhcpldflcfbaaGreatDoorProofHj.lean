/-
  2 to the power of k steps at once are so many steps: edenlaw3.HashJumps returns true at every rule, pattern and five numbers (where it lies, how far it goes, how great a window is looked at), and they read as they did.
  Conditions: the card's own (the library's variables that it lists start as their texts lay them, which the card ties; a text or a slice takes at most 2^47 - 4096 bytes, as every row says). The seat's pruned copy of the project stands for it.
-/
import Derived.Test.YtemhcpldflcfbaaGreatDoorZj49
import Derived.Test.YtemhcpldflcfbaaGreatDoorZj50
namespace Go.Proofs.YtemhcpldflcfbaaGreatDoor
open Go.ChangeShapes Go.WideShapes Go.ChangeAt Go.RowKit
set_option linter.unusedVariables false
def hashJumpsLaid : List (String × DataW Unit) := Rows.hashJumpsRow.laid.filter fun x => x.2.handleName?.isNone
theorem hashJumpsWorld_met (os : Os) (args : Array Value) : laidMetH Tryz.prog Rows.hashJumpsRow.laid ((World.layVars Tryz.prog (layWorldP (World.holding Tryz.prog os ⟨#[], #[], []⟩)) hashJumpsLaid).forCall (fun _ _ => 0) ⟨#[], args, []⟩).memory := by
 have e1 : (hashJumpsLaid.filter fun x => (hashJumpsLaid.map (·.1)).contains x.1) = hashJumpsLaid := List.filter_eq_self.2 fun x hx => List.contains_iff_mem.2 (List.mem_map.2 ⟨x, hx, rfl⟩)
 have e2 : (hashJumpsLaid.filter fun x => !(hashJumpsLaid.map (·.1)).contains x.1) = [] := List.filter_eq_nil_iff.2 fun x hx => by rw [List.contains_iff_mem.2 (List.mem_map.2 ⟨x, hx, rfl⟩)]; simp
 have h : laidMet Tryz.prog hashJumpsLaid (World.layVars Tryz.prog (layWorldP (World.holding Tryz.prog os ⟨#[], #[], []⟩)) hashJumpsLaid) := laidMet_layVars (w0 := layWorldP (World.holding Tryz.prog os ⟨#[], #[], []⟩)) (hashJumpsLaid.map (·.1)) [] (by rw [e1]) (by rw [e1]; kernel_rfl) (by rw [e1]; kernel_rfl) (by rw [e2]; exact LaidIn.none)
 exact laidMetH_of_parts (h.of_heap (by simp [World.memory, World.forCall, Input.heap])) (by kernel_rfl)
set_option maxRecDepth 100000 in
theorem hashJumps_lifted (os : Os) (started : os.Started) (H : Type) (enc : TypeId × Value → H) :
  ReturnsInHanded {} Tryz.checked os 3 .any (fun w args => (Rows.hashJumpsSpec.pre enc Tryz.prog Tryz.f3 [] false w args ∧ laidMetH Tryz.prog Rows.hashJumpsRow.laid w) ∧ sizedMet enc Tryz.prog Tryz.f3 (OpenSpec.ofChange Rows.hashJumpsSpec) false w args)
   (Rows.hashJumpsSpec.post enc Tryz.prog Tryz.f3 false true false false) := by
 refine returnsInHanded_of_change_and (C := Tryz.checked) (X := fun w _ => laidMetH Tryz.prog Rows.hashJumpsRow.laid w) (fun _ _ _ hh h => h.of_heap hh) ownP started (by kernel_rfl) Tryz.func3
  (ChangeSpec.witness_at (enc := enc) (C := Tryz.checked) (os := os) (X := fun w _ => laidMetH Tryz.prog Rows.hashJumpsRow.laid w) false (World.layVars Tryz.prog (layWorldP (World.holding Tryz.prog os ⟨#[], #[], []⟩)) hashJumpsLaid) #[.agg #[.int .i64 0, .int .i64 0, .int .i64 0, .int .i64 0, .int .i64 0, .slice none 0 0, .string ⟨#[]⟩], .agg #[.int .i64 0, .int .i64 0, .slice none 0 0], .int .i64 0, .int .i64 0, .int .i64 0, .int .i64 0, .int .i64 0] 8 (World.layVars_os _ _ _) (by kernel_rfl) (by kernel_rfl) (by kernel_rfl) (by kernel_rfl) (by kernel_rfl) (hashJumpsWorld_met os _)) ?_
 intro W0 base args ds gs before hval0 hW _ _ hL _
 have hval : ∀ (j : Nat) t v, Tryz.f3.params[j]? = some t → args[j]? = some v → Value.okWide Tryz.prog W0 .any base t v := hval0
 have hW' := hW
 obtain ⟨p, q, hA0, hV0, rfl, hfz, hnd⟩ := hW
 have hA : DataW.TrodAll enc Tryz.prog W0 0 (fun _ => true) true Tryz.f3.params.toList args.toList ds p := hA0
 have hV : DataW.TrodVars enc Tryz.prog W0 (fun _ => true) [] gs q := hV0
 rw [Tryz.params3] at hA hval
 obtain ⟨v0, v1, v2, v3, v4, v5, v6, d0, d1, d2, d3, d4, d5, d6, p0, p1, p2, p3, p4, p5, p6, rfl, rfl, rfl, h0, h1, h2, h3, h4, h5, h6⟩ := trodAll_sevenH hA
 have hlt := DataW.TrodAll.lt hA
 have hlt0 : ∀ x ∈ p0, x.block < W0.heap.size := fun x hx => hlt x (List.mem_append_left _ hx)
 have hlt1 : ∀ x ∈ p1, x.block < W0.heap.size := fun x hx => hlt x (List.mem_append_right _ (List.mem_append_left _ hx))
 have hlt2 : ∀ x ∈ p2, x.block < W0.heap.size := fun x hx => hlt x (List.mem_append_right _ (List.mem_append_right _ (List.mem_append_left _ hx)))
 obtain ⟨o, ra, rc, rfl, hR, hrcap, hrcm⟩ := open_ruleQ (hval 0 24 v0 rfl rfl) h0
 obtain ⟨W, H', xs, a, c, rfl, hArg, hcap, hcm⟩ := open_pattern (hval 1 26 v1 rfl rfl) h1
 obtain ⟨r0, rfl, rfl, rfl, hr0⟩ := open_int Tryz.underlying3 (hval 2 3 v2 rfl rfl) h2
 obtain ⟨e0, rfl, rfl, rfl, he0⟩ := open_int Tryz.underlying3 (hval 3 3 v3 rfl rfl) h3
 obtain ⟨k0, rfl, rfl, rfl, hk0⟩ := open_int Tryz.underlying3 (hval 4 3 v4 rfl rfl) h4
 obtain ⟨x0, rfl, rfl, rfl, hx0⟩ := open_int Tryz.underlying3 (hval 5 3 v5 rfl rfl) h5
 obtain ⟨y0, rfl, rfl, rfl, hy0⟩ := open_int Tryz.underlying3 (hval 6 3 v6 rfl rfl) h6
 obtain ⟨hD, hHn⟩ := laidMetH_iff.1 hL
 have hg : Handle W0 := handle_laid (show handlesMet Tryz.prog [("errors.errorType", Rows.laid_errors_errorType)] W0 from hHn)
 have hz : TzTab W0 := tz_of_laid (by kernel_rfl) hD
 obtain ⟨rfl, rfl⟩ : gs = [] ∧ q = [] := by
  cases gs with
  | nil => exact ⟨rfl, hV⟩
  | cons g r => exact absurd hV (by intro h; cases h)
 have e1 : Rows.hashJumpsSpec.fn H ([d0, d1, .lit (.int .i64 r0), .lit (.int .i64 e0), .lit (.int .i64 k0), .lit (.int .i64 x0), .lit (.int .i64 y0)] ++ []) = { results := [.lit (.bool true)], args := [d0, d1, .lit (.int .i64 r0), .lit (.int .i64 e0), .lit (.int .i64 k0), .lit (.int .i64 x0), .lit (.int .i64 y0)] } := by simp [Rows.hashJumpsSpec]
 refine (law_jumps_all o ra o.table.length rc W H' xs a xs.length c r0 e0 k0 x0 y0 W0 hR hArg hg hz).mono fun e W' ⟨he, hb⟩ => ?_
 subst he
 refine ⟨_, rfl, _, _, _, [], p0 ++ (p1 ++ ([] ++ ([] ++ ([] ++ ([] ++ ([] ++ [])))))), [], hW', ?_, ?_, ?_, hb.frame _, fun h => by cases h⟩
 ·rw [e1]; exact trodAll_mk1 (shut_bool Tryz.underlying4 true)
 ·rw [e1]; exact (trodAll_cons_mk (Below.trod laidOutP (by kernel_rfl) (of_decide_eq_true (by kernel_rfl)) h0 hb hlt0) (trodAll_cons_mk (Below.trod laidOutP (by kernel_rfl) (of_decide_eq_true (by kernel_rfl)) h1 hb hlt1) (trodAll_cons_mk (shut_int Tryz.underlying3 hr0) (trodAll_cons_mk (shut_int Tryz.underlying3 he0) (trodAll_cons_mk (shut_int Tryz.underlying3 hk0) (trodAll_cons_mk (shut_int Tryz.underlying3 hx0) (trodAll_cons_mk (shut_int Tryz.underlying3 hy0) trodAll_mk0)))))))
 ·rw [e1]; rfl
theorem hashJumps_row : Rows.HashJumpsSaid :=
 OpenClaim.holds_of_wide 3 Tryz.f3 rfl rfl rfl rfl rfl rfl rfl ⟨rfl, rfl, rfl, rfl, rfl⟩ rfl rfl rfl rfl rfl (by kernel_rfl) Tryz.func3 (by kernel_rfl)
  (of_decide_eq_true (by kernel_rfl)) (by unfold Func.isWrapper; rw [if_neg (of_decide_eq_false (by kernel_rfl))]; exact ⟨rfl, rfl⟩)
  (fun os started H enc _ => hashJumps_lifted os started H enc)
theorem hashJumps_holds : Rows.HashJumpsCardSaid :=
 Claim7.holds_tied_plain_at .later [] [.data, .handle] true Rows.hashJumpsCard.stood.harness true
  hashJumps_row (fun _ h => by cases h) (by kernel_rfl) (fun _ h => by cases h) hashJumps_row_tie rfl ⟨rfl, rfl⟩ (by kernel_rfl) rfl
  (fun f fn hf hfn => by
   obtain rfl : f = 3 := Option.some.inj ((show Tryz.prog.funcNamed "eden/edenlaw3.HashJumps" = some 3 by kernel_rfl).symm.trans hf) |>.symm
   obtain rfl : fn = Tryz.f3 := (Option.some.inj (Tryz.func3.symm.trans hfn)).symm
   exact ⟨by kernel_rfl, fun j t ht => by
    rw [Tryz.params3] at ht
    have h9 : t = 24 ∨ t = 26 ∨ t = 3 ∨ t = 3 ∨ t = 3 ∨ t = 3 ∨ t = 3 := by
     rcases j with _ | _ | _ | _ | _ | _ | _ | j
     ·left; simpa using ht.symm
     ·right; left; simpa using ht.symm
     ·right; right; left; simpa using ht.symm
     ·right; right; right; left; simpa using ht.symm
     ·right; right; right; right; left; simpa using ht.symm
     ·right; right; right; right; right; left; simpa using ht.symm
     ·right; right; right; right; right; right; simpa using ht.symm
     ·simp at ht
    rcases h9 with rfl | rfl | rfl | rfl | rfl | rfl | rfl
    ·exact (show Tryz.prog.wantsStandIn 24 = false by kernel_rfl)
    ·exact (show Tryz.prog.wantsStandIn 26 = false by kernel_rfl)
    ·exact (show Tryz.prog.wantsStandIn 3 = false by kernel_rfl)
    ·exact (show Tryz.prog.wantsStandIn 3 = false by kernel_rfl)
    ·exact (show Tryz.prog.wantsStandIn 3 = false by kernel_rfl)
    ·exact (show Tryz.prog.wantsStandIn 3 = false by kernel_rfl)
    ·exact (show Tryz.prog.wantsStandIn 3 = false by kernel_rfl)⟩)
  (by kernel_rfl)
#print axioms hashJumps_holds
end Go.Proofs.YtemhcpldflcfbaaGreatDoor
