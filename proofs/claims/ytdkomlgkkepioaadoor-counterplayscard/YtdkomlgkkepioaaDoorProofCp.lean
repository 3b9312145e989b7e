/-
  What any fractions make of any number, and how often, or what is wrong: edenlaw4.CounterPlays returns true at every list of fractions and every two numbers, and they read as they did.
  Conditions: the card's own (the library's variables that it lists start as their texts lay them, which the card ties; a text or a slice takes at most 2^47 - 4096 bytes, as every row says). The seat's pruned copy of the project stands for it.
-/
import Derived.Test.YtdkomlgkkepioaaDoorJp7
import Derived.Test.YtdkomlgkkepioaaDoorJp8
namespace Go.Proofs.YtdkomlgkkepioaaDoor
open Go.ChangeShapes Go.WideShapes Go.ChangeAt Go.RowKit
set_option linter.unusedVariables false

def counterPlaysLaid : List (String × DataW Unit) := Rows.counterPlaysRow.laid.filter fun x => x.2.handleName?.isNone
theorem counterPlaysWorld_met (os : Os) (args : Array Value) : laidMetH Tryd.prog Rows.counterPlaysRow.laid ((World.layVars Tryd.prog (layWorldP (World.holding Tryd.prog os ⟨#[], #[], []⟩)) counterPlaysLaid).forCall (fun _ _ => 0) ⟨#[], args, []⟩).memory := by
  have e1 : (counterPlaysLaid.filter fun x => (counterPlaysLaid.map (·.1)).contains x.1) = counterPlaysLaid := List.filter_eq_self.2 fun x hx => List.contains_iff_mem.2 (List.mem_map.2 ⟨x, hx, rfl⟩)
  have e2 : (counterPlaysLaid.filter fun x => !(counterPlaysLaid.map (·.1)).contains x.1) = [] := List.filter_eq_nil_iff.2 fun x hx => by rw [List.contains_iff_mem.2 (List.mem_map.2 ⟨x, hx, rfl⟩)]; simp
  have h : laidMet Tryd.prog counterPlaysLaid (World.layVars Tryd.prog (layWorldP (World.holding Tryd.prog os ⟨#[], #[], []⟩)) counterPlaysLaid) := laidMet_layVars (w0 := layWorldP (World.holding Tryd.prog os ⟨#[], #[], []⟩)) (counterPlaysLaid.map (·.1)) [] (by rw [e1]) (by rw [e1]; kernel_rfl) (by rw [e1]; kernel_rfl) (by rw [e2]; exact LaidIn.none)
  exact laidMetH_of_parts (h.of_heap (by simp [World.memory, World.forCall, Input.heap])) (by kernel_rfl)

set_option maxRecDepth 100000 in
theorem counterPlays_lifted (os : Os) (started : os.Started) (H : Type) (enc : TypeId × Value → H) :
    ReturnsInHanded {} Tryd.checked os 9 .any (fun w args => (Rows.counterPlaysSpec.pre enc Tryd.prog Tryd.f9 [] false w args ∧ laidMetH Tryd.prog Rows.counterPlaysRow.laid w) ∧ sizedMet enc Tryd.prog Tryd.f9 (OpenSpec.ofChange Rows.counterPlaysSpec) false w args)
      (Rows.counterPlaysSpec.post enc Tryd.prog Tryd.f9 false true false false) := by
  refine returnsInHanded_of_change_and (C := Tryd.checked) (X := fun w _ => laidMetH Tryd.prog Rows.counterPlaysRow.laid w) (fun _ _ _ hh h => h.of_heap hh) ownP started (by kernel_rfl) Tryd.func9
    (ChangeSpec.witness_at (enc := enc) (C := Tryd.checked) (os := os) (X := fun w _ => laidMetH Tryd.prog Rows.counterPlaysRow.laid w) false (World.layVars Tryd.prog (layWorldP (World.holding Tryd.prog os ⟨#[], #[], []⟩)) counterPlaysLaid) #[.slice none 0 0, .int .i64 0, .int .i64 0] 8 (World.layVars_os _ _ _) (by kernel_rfl) (by kernel_rfl) (by kernel_rfl) (by kernel_rfl) (by kernel_rfl) (counterPlaysWorld_met os _)) ?_
  intro W0 base args ds gs before hval0 hW _ _ hL _
  have hval : ∀ (j : Nat) t v, Tryd.f9.params[j]? = some t → args[j]? = some v → Value.okWide Tryd.prog W0 .any base t v := hval0
  have hW' := hW
  obtain ⟨p, q, hA0, hV0, rfl, hfz, hnd⟩ := hW
  have hA : DataW.TrodAll enc Tryd.prog W0 0 (fun _ => true) true Tryd.f9.params.toList args.toList ds p := hA0
  have hV : DataW.TrodVars enc Tryd.prog W0 (fun _ => true) [] gs q := hV0
  rw [Tryd.params9] at hA hval
  obtain ⟨v0, v1, v2, d0, d1, d2, p0, p1, p2, rfl, rfl, rfl, h0, h1, h2⟩ := trodAll_three hA
  have hlt := DataW.TrodAll.lt hA
  have hlt0 : ∀ x ∈ p0, x.block < W0.heap.size := fun x hx => hlt x (List.mem_append_left _ (List.mem_append_left _ hx))
  have hlt1 : ∀ x ∈ p1, x.block < W0.heap.size := fun x hx => hlt x (List.mem_append_left _ (List.mem_append_right _ hx))
  have hlt2 : ∀ x ∈ p2, x.block < W0.heap.size := fun x hx => hlt x (List.mem_append_right _ hx)
  obtain ⟨xs, sa, sc, rfl, hF⟩ := open_fracs (hval 0 71 v0 rfl rfl) h0
  obtain ⟨nn, rfl, rfl, rfl, hnn⟩ := open_int Tryd.underlying3 (hval 1 3 v1 rfl rfl) h1
  obtain ⟨k, rfl, rfl, rfl, hk⟩ := open_int Tryd.underlying3 (hval 2 3 v2 rfl rfl) h2
  obtain ⟨hD, hHn⟩ := laidMetH_iff.1 hL
  have hg : Handle W0 := handle_laid (show handlesMet Tryd.prog [("errors.errorType", Rows.laid_errors_errorType)] W0 from hHn)
  obtain ⟨eb, hE⟩ := end_of_laid (by kernel_rfl) hD
  obtain ⟨rfl, rfl⟩ : gs = [] ∧ q = [] := by
    cases gs with
    | nil => exact ⟨rfl, hV⟩
    | cons g r => exact absurd hV (by intro h; cases h)
  have e1 : Rows.counterPlaysSpec.fn H ([d0, .lit (.int .i64 nn), .lit (.int .i64 k)] ++ []) = { results := [.lit (.bool true)], args := [d0, .lit (.int .i64 nn), .lit (.int .i64 k)] } := by simp [Rows.counterPlaysSpec]
  refine (law_plays_all xs sa xs.length sc nn k eb W0 hF hE hg (int_max hnn)).mono fun e W' ⟨he, hb⟩ => ?_
  subst he
  refine ⟨_, rfl, _, _, _, [], p0 ++ ([] ++ []), [], hW', ?_, ?_, ?_, hb.frame _, fun h => by cases h⟩
  · rw [e1]; exact trodAll_mk1 (shut_bool Tryd.underlying4 true)
  · rw [e1]; exact trodAll_mk3 (Below.trod laidOutP (by kernel_rfl) (of_decide_eq_true (by kernel_rfl)) h0 hb hlt0) (shut_int Tryd.underlying3 hnn) (shut_int Tryd.underlying3 hk)
  · rw [e1]; rfl

theorem counterPlays_row : Rows.CounterPlaysSaid :=
  OpenClaim.holds_of_wide 9 Tryd.f9 rfl rfl rfl rfl rfl rfl rfl ⟨rfl, rfl, rfl, rfl, rfl⟩ rfl rfl rfl rfl rfl (by kernel_rfl) Tryd.func9 (by kernel_rfl)
    (of_decide_eq_true (by kernel_rfl)) (by unfold Func.isWrapper; rw [if_neg (of_decide_eq_false (by kernel_rfl))]; exact ⟨rfl, rfl⟩)
    (fun os started H enc _ => counterPlays_lifted os started H enc)

theorem counterPlays_holds : Rows.CounterPlaysCardSaid :=
  Claim7.holds_tied_plain_at .later [] [.handle, .sentinel] true Rows.counterPlaysCard.stood.harness true
    counterPlays_row (fun _ h => by cases h) (by kernel_rfl) (fun _ h => by cases h) counterPlays_row_tie rfl ⟨rfl, rfl⟩ (by kernel_rfl) rfl
    (fun f fn hf hfn => by
      obtain rfl : f = 9 := Option.some.inj ((show Tryd.prog.funcNamed "eden/edenlaw4.CounterPlays" = some 9 by kernel_rfl).symm.trans hf) |>.symm
      obtain rfl : fn = Tryd.f9 := (Option.some.inj (Tryd.func9.symm.trans hfn)).symm
      exact ⟨by kernel_rfl, fun j t ht => by
        rw [Tryd.params9] at ht
        have h9 : t = 71 ∨ t = 3 ∨ t = 3 := by
          rcases j with _ | _ | _ | j
          · left; simpa using ht.symm
          · right; left; simpa using ht.symm
          · right; right; simpa using ht.symm
          · simp at ht
        rcases h9 with rfl | rfl | rfl
        · exact (show Tryd.prog.wantsStandIn 71 = false by kernel_rfl)
        · exact (show Tryd.prog.wantsStandIn 3 = false by kernel_rfl)
        · exact (show Tryd.prog.wantsStandIn 3 = false by kernel_rfl)⟩)
    (by kernel_rfl)
#print axioms counterPlays_holds
end Go.Proofs.YtdkomlgkkepioaaDoor
