/-
  The text of any rule and its mirror, or what is wrong with it: edenlaw1.RulesPrints returns true at every rule, and the rule reads as it did.
  Conditions: the card's own (the library's variables errors.errorType, internal/strconv.uint64pow10 and math/bits' two tables start as their texts lay them, which the card ties; a text or a slice takes at most 2^47 - 4096 bytes, as every row says). The seat's pruned copy of the project stands for it.
-/
import Derived.Test.YtjngjnkecnnmeaaDoorJp16
import Derived.Test.YtjngjnkecnnmeaaDoorJp31
import Derived.Test.YtjngjnkecnnmeaaDoorJp32
import Derived.LaidSub
import Derived.Lay
import Derived.Carry
namespace Go.Proofs.YtjngjnkecnnmeaaDoor
open Go.ChangeShapes Go.WideShapes Go.ChangeAt Go.RowKit
set_option linter.unusedVariables false

def prLaid : List (String × DataW Unit) := Rows.rulesPrintsRow.laid.filter fun x => x.2.handleName?.isNone
theorem prWorld_met (os : Os) (args : Array Value) : laidMetH Tryd.prog Rows.rulesPrintsRow.laid ((World.layVars Tryd.prog (layWorld (World.holding Tryd.prog os ⟨#[], #[], []⟩)) prLaid).forCall (fun _ _ => 0) ⟨#[], args, []⟩).memory := by
  have e1 : (prLaid.filter fun x => (prLaid.map (·.1)).contains x.1) = prLaid := List.filter_eq_self.2 fun x hx => List.contains_iff_mem.2 (List.mem_map.2 ⟨x, hx, rfl⟩)
  have e2 : (prLaid.filter fun x => !(prLaid.map (·.1)).contains x.1) = [] := List.filter_eq_nil_iff.2 fun x hx => by rw [List.contains_iff_mem.2 (List.mem_map.2 ⟨x, hx, rfl⟩)]; simp
  have h : laidMet Tryd.prog prLaid (World.layVars Tryd.prog (layWorld (World.holding Tryd.prog os ⟨#[], #[], []⟩)) prLaid) := laidMet_layVars (w0 := layWorld (World.holding Tryd.prog os ⟨#[], #[], []⟩)) (prLaid.map (·.1)) [] (by rw [e1]) (by rw [e1]; kernel_rfl) (by rw [e1]; kernel_rfl) (by rw [e2]; exact LaidIn.none)
  exact laidMetH_of_parts (h.of_heap (by simp [World.memory, World.forCall, Input.heap])) (by kernel_rfl)

set_option maxRecDepth 100000 in
theorem prints_lifted (os : Os) (started : os.Started) (H : Type) (enc : TypeId × Value → H) :
    ReturnsInHanded {} Tryd.checked os 4 .any (fun w args => (Rows.rulesPrintsSpec.pre enc Tryd.prog Tryd.f4 [] false w args ∧ laidMetH Tryd.prog Rows.rulesPrintsRow.laid w) ∧ sizedMet enc Tryd.prog Tryd.f4 (OpenSpec.ofChange Rows.rulesPrintsSpec) false w args)
      (Rows.rulesPrintsSpec.post enc Tryd.prog Tryd.f4 false true false false) := by
  refine returnsInHanded_of_change_and (C := Tryd.checked) (X := fun w _ => laidMetH Tryd.prog Rows.rulesPrintsRow.laid w) (fun _ _ _ hh h => h.of_heap hh) own started (by kernel_rfl) Tryd.func4
    (ChangeSpec.witness_at (enc := enc) (C := Tryd.checked) (os := os) (X := fun w _ => laidMetH Tryd.prog Rows.rulesPrintsRow.laid w) false (World.layVars Tryd.prog (layWorld (World.holding Tryd.prog os ⟨#[], #[], []⟩)) prLaid) #[.agg #[.int .i64 0, .int .i64 0, .int .i64 0, .int .i64 0, .int .i64 0, .slice none 0 0, .string ⟨#[]⟩]] 8 (World.layVars_os _ _ _) (by kernel_rfl) (by kernel_rfl) (by kernel_rfl) (by kernel_rfl) (by kernel_rfl) (prWorld_met os _)) ?_
  intro W base args ds gs before hval0 hW _ _ hL _
  have hval : ∀ (j : Nat) t v, Tryd.f4.params[j]? = some t → args[j]? = some v → Value.okWide Tryd.prog W .any base t v := hval0
  have hW' := hW
  obtain ⟨p, q, hA0, hV0, rfl, hfz, hnd⟩ := hW
  have hA : DataW.TrodAll enc Tryd.prog W 0 (fun _ => true) true Tryd.f4.params.toList args.toList ds p := hA0
  have hV : DataW.TrodVars enc Tryd.prog W (fun _ => true) [] gs q := hV0
  rw [Tryd.params4] at hA hval
  obtain ⟨v0, d0, rfl, rfl, h0⟩ := trodAll_one hA
  have hlt := DataW.TrodAll.lt hA
  obtain ⟨o, a, n, c, rfl, hR⟩ := open_rule (hval 0 24 v0 rfl rfl) h0
  obtain ⟨hD, hHn⟩ := laidMetH_iff.1 hL
  have hg : Handle W := handle_of_laid (show handlesMet Tryd.prog [("errors.errorType", Rows.laid_errors_errorType)] W from hHn)
  have hp : PowT W := powT_of_laid (by kernel_rfl) hD
  obtain ⟨rfl, rfl⟩ : gs = [] ∧ q = [] := by
    cases gs with
    | nil => exact ⟨rfl, hV⟩
    | cons g r => exact absurd hV (by intro h; cases h)
  have e1 : Rows.rulesPrintsSpec.fn H ([d0] ++ []) = { results := [.lit (.bool true)], args := [d0] } := by simp [Rows.rulesPrintsSpec]
  refine (law_prints o a n c W hR hp hg).mono fun e W' ⟨he, hb⟩ => ?_
  subst he
  refine ⟨_, rfl, _, _, _, [], p, [], hW', ?_, ?_, ?_, hb.frame _, fun h => by cases h⟩
  · rw [e1]; exact trodAll_mk1 (shut_bool Tryd.underlying4 true)
  · rw [e1]; exact trodAll_mk1 (Below.trod laidOut (by kernel_rfl) (of_decide_eq_true (by kernel_rfl)) h0 hb hlt)
  · rw [e1]; rfl

theorem prints_row : Rows.RulesPrintsSaid :=
  OpenClaim.holds_of_wide 4 Tryd.f4 rfl rfl rfl rfl rfl rfl rfl ⟨rfl, rfl, rfl, rfl, rfl⟩ rfl rfl rfl rfl rfl (by kernel_rfl) Tryd.func4 (by kernel_rfl)
    (of_decide_eq_true (by kernel_rfl)) (by unfold Func.isWrapper; rw [if_neg (of_decide_eq_false (by kernel_rfl))]; exact ⟨rfl, rfl⟩)
    (fun os started H enc _ => prints_lifted os started H enc)

theorem rulesPrints_holds : Rows.RulesPrintsCardSaid :=
  Claim7.holds_tied_plain_at .later [] [.data, .data, .data, .handle] true Rows.rulesPrintsCard.stood.harness true
    prints_row (fun _ h => by cases h) (by kernel_rfl) (fun _ h => by cases h) rulesPrints_row_tie rfl ⟨rfl, rfl⟩ (by kernel_rfl) rfl
    (fun f fn hf hfn => by
      obtain rfl : f = 4 := Option.some.inj ((show Tryd.prog.funcNamed "eden/edenlaw1.RulesPrints" = some 4 by kernel_rfl).symm.trans hf) |>.symm
      obtain rfl : fn = Tryd.f4 := (Option.some.inj (Tryd.func4.symm.trans hfn)).symm
      exact ⟨by kernel_rfl, fun j t ht => by
        rw [Tryd.params4] at ht
        have h9 : t = 24 := by
          rcases j with _ | j
          · simpa using ht.symm
          · simp at ht
        subst h9
        exact (show Tryd.prog.wantsStandIn 24 = false by kernel_rfl)⟩)
    (by kernel_rfl)
#print axioms rulesPrints_holds
end Go.Proofs.YtjngjnkecnnmeaaDoor
