/-
  A sum is onto, or one to one, by its numbers alone (Ito, Osato and Nasu): edenlaw2.SumsOnto returns true at every rule, and it reads as it did.
  Conditions: the card's own (the library's variables that it lists start as their texts lay them, which the card ties; a text or a slice takes at most 2^47 - 4096 bytes, as every row says). The seat's pruned copy of the project stands for it.
-/
import Derived.Test.YtjjdjdodhedihaaDoorJs30
import Derived.Test.YtjjdjdodhedihaaDoorJs31
namespace Go.Proofs.YtjjdjdodhedihaaDoor
open Go.ChangeShapes Go.WideShapes Go.ChangeAt Go.RowKit
set_option linter.unusedVariables false

def sumsOntoLaid : List (String × DataW Unit) := Rows.sumsOntoRow.laid.filter fun x => x.2.handleName?.isNone
theorem sumsOntoWorld_met (os : Os) (args : Array Value) : laidMetH Tryd.prog Rows.sumsOntoRow.laid ((World.layVars Tryd.prog (World.holding Tryd.prog os ⟨#[], #[], []⟩) sumsOntoLaid).forCall (fun _ _ => 0) ⟨#[], args, []⟩).memory := by
  have e1 : (sumsOntoLaid.filter fun x => (sumsOntoLaid.map (·.1)).contains x.1) = sumsOntoLaid := List.filter_eq_self.2 fun x hx => List.contains_iff_mem.2 (List.mem_map.2 ⟨x, hx, rfl⟩)
  have e2 : (sumsOntoLaid.filter fun x => !(sumsOntoLaid.map (·.1)).contains x.1) = [] := List.filter_eq_nil_iff.2 fun x hx => by rw [List.contains_iff_mem.2 (List.mem_map.2 ⟨x, hx, rfl⟩)]; simp
  have h : laidMet Tryd.prog sumsOntoLaid (World.layVars Tryd.prog (World.holding Tryd.prog os ⟨#[], #[], []⟩) sumsOntoLaid) := laidMet_layVars (w0 := World.holding Tryd.prog os ⟨#[], #[], []⟩) (sumsOntoLaid.map (·.1)) [] (by rw [e1]) (by rw [e1]; kernel_rfl) (by rw [e1]; kernel_rfl) (by rw [e2]; exact LaidIn.none)
  exact laidMetH_of_parts (h.of_heap (by simp [World.memory, World.forCall, Input.heap])) (by kernel_rfl)

set_option maxRecDepth 100000 in
theorem sumsOnto_lifted (os : Os) (started : os.Started) (H : Type) (enc : TypeId × Value → H) :
    ReturnsInHanded {} Tryd.checked os 5 .any (fun w args => (Rows.sumsOntoSpec.pre enc Tryd.prog Tryd.f5 [] false w args ∧ laidMetH Tryd.prog Rows.sumsOntoRow.laid w) ∧ sizedMet enc Tryd.prog Tryd.f5 (OpenSpec.ofChange Rows.sumsOntoSpec) false w args)
      (Rows.sumsOntoSpec.post enc Tryd.prog Tryd.f5 false true false false) := by
  refine returnsInHanded_of_change_and (C := Tryd.checked) (X := fun w _ => laidMetH Tryd.prog Rows.sumsOntoRow.laid w) (fun _ _ _ hh h => h.of_heap hh) ownP started (by kernel_rfl) Tryd.func5
    (ChangeSpec.witness_at (enc := enc) (C := Tryd.checked) (os := os) (X := fun w _ => laidMetH Tryd.prog Rows.sumsOntoRow.laid w) false (World.layVars Tryd.prog (World.holding Tryd.prog os ⟨#[], #[], []⟩) sumsOntoLaid) #[.agg #[.int .i64 0, .int .i64 0, .int .i64 0, .int .i64 0, .int .i64 0, .slice none 0 0, .string ⟨#[]⟩]] 8 (World.layVars_os _ _ _) (by kernel_rfl) (by kernel_rfl) (by kernel_rfl) (by kernel_rfl) (by kernel_rfl) (sumsOntoWorld_met os _)) ?_
  intro W0 base args ds gs before hval0 hW _ _ hL _
  have hval : ∀ (j : Nat) t v, Tryd.f5.params[j]? = some t → args[j]? = some v → Value.okWide Tryd.prog W0 .any base t v := hval0
  have hW' := hW
  obtain ⟨p, q, hA0, hV0, rfl, hfz, hnd⟩ := hW
  have hA : DataW.TrodAll enc Tryd.prog W0 0 (fun _ => true) true Tryd.f5.params.toList args.toList ds p := hA0
  have hV : DataW.TrodVars enc Tryd.prog W0 (fun _ => true) [] gs q := hV0
  rw [Tryd.params5] at hA hval
  obtain ⟨v0, d0, rfl, rfl, h0⟩ := trodAll_one hA
  have hlt0 := DataW.TrodAll.lt hA
  obtain ⟨o, ra, rc, rfl, hR, hrcap, hrcm⟩ := open_ruleQ (hval 0 24 v0 rfl rfl) h0
  obtain ⟨hD, hHn⟩ := laidMetH_iff.1 hL
  have hz : TzTab W0 := tz_of_laid (by kernel_rfl) hD
  obtain ⟨rfl, rfl⟩ : gs = [] ∧ q = [] := by
    cases gs with
    | nil => exact ⟨rfl, hV⟩
    | cons g r => exact absurd hV (by intro h; cases h)
  have e1 : Rows.sumsOntoSpec.fn H ([d0] ++ []) = { results := [.lit (.bool true)], args := [d0] } := by simp [Rows.sumsOntoSpec]
  refine (law_sonto_all o ra o.table.length rc W0 hR hz).mono fun e W' ⟨he, hb⟩ => ?_
  subst he
  refine ⟨_, rfl, _, _, _, [], p, [], hW', ?_, ?_, ?_, hb.frame _, fun h => by cases h⟩
  · rw [e1]; exact trodAll_mk1 (shut_bool Tryd.underlying4 true)
  · rw [e1]; exact trodAll_mk1 (Below.trod laidOutP (by kernel_rfl) (of_decide_eq_true (by kernel_rfl)) h0 hb hlt0)
  · rw [e1]; rfl

theorem sumsOnto_row : Rows.SumsOntoSaid :=
  OpenClaim.holds_of_wide 5 Tryd.f5 rfl rfl rfl rfl rfl rfl rfl ⟨rfl, rfl, rfl, rfl, rfl⟩ rfl rfl rfl rfl rfl (by kernel_rfl) Tryd.func5 (by kernel_rfl)
    (of_decide_eq_true (by kernel_rfl)) (by unfold Func.isWrapper; rw [if_neg (of_decide_eq_false (by kernel_rfl))]; exact ⟨rfl, rfl⟩)
    (fun os started H enc _ => sumsOnto_lifted os started H enc)

theorem sumsOnto_holds : Rows.SumsOntoCardSaid :=
  Claim7.holds_tied_plain_at .later [] [.data, .data] true Rows.sumsOntoCard.stood.harness true
    sumsOnto_row (fun _ h => by cases h) (by kernel_rfl) (fun _ h => by cases h) sumsOnto_row_tie rfl ⟨rfl, rfl⟩ (by kernel_rfl) rfl
    (fun f fn hf hfn => by
      obtain rfl : f = 5 := Option.some.inj ((show Tryd.prog.funcNamed "eden/edenlaw2.SumsOnto" = some 5 by kernel_rfl).symm.trans hf) |>.symm
      obtain rfl : fn = Tryd.f5 := (Option.some.inj (Tryd.func5.symm.trans hfn)).symm
      exact ⟨by kernel_rfl, fun j t ht => by
        rw [Tryd.params5] at ht
        have h9 : t = 24 := by
          rcases j with _ | j
          · simpa using ht.symm
          · simp at ht
        subst h9
        · exact (show Tryd.prog.wantsStandIn 24 = false by kernel_rfl)⟩)
    (by kernel_rfl)
#print axioms sumsOnto_holds
end Go.Proofs.YtjjdjdodhedihaaDoor
