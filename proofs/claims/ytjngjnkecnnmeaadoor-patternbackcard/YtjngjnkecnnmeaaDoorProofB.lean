/-
  Written and read is the same, turns are undone, however a pattern is turned the first of its turns is one: edenlaw1.PatternBack returns true at every pattern and number, and the pattern reads as it did.
  Conditions: the card's own (the library's variables that it lists start as their texts lay them, which the card ties; a text or a slice takes at most 2^47 - 4096 bytes, as every row says). The seat's pruned copy of the project stands for it.
-/
import Derived.Test.YtjngjnkecnnmeaaDoorJb50
namespace Go.Proofs.YtjngjnkecnnmeaaDoor
open Go.ChangeShapes Go.WideShapes Go.ChangeAt Go.RowKit
set_option linter.unusedVariables false

def patternBackLaid : List (String × DataW Unit) := Rows.patternBackRow.laid.filter fun x => x.2.handleName?.isNone
theorem patternBackWorld_met (os : Os) (args : Array Value) : laidMetH Tryd.prog Rows.patternBackRow.laid ((World.layVars Tryd.prog (World.holding Tryd.prog os ⟨#[], #[], []⟩) patternBackLaid).forCall (fun _ _ => 0) ⟨#[], args, []⟩).memory := by
  have e1 : (patternBackLaid.filter fun x => (patternBackLaid.map (·.1)).contains x.1) = patternBackLaid := List.filter_eq_self.2 fun x hx => List.contains_iff_mem.2 (List.mem_map.2 ⟨x, hx, rfl⟩)
  have e2 : (patternBackLaid.filter fun x => !(patternBackLaid.map (·.1)).contains x.1) = [] := List.filter_eq_nil_iff.2 fun x hx => by rw [List.contains_iff_mem.2 (List.mem_map.2 ⟨x, hx, rfl⟩)]; simp
  have h : laidMet Tryd.prog patternBackLaid (World.layVars Tryd.prog (World.holding Tryd.prog os ⟨#[], #[], []⟩) patternBackLaid) := laidMet_layVars (w0 := World.holding Tryd.prog os ⟨#[], #[], []⟩) (patternBackLaid.map (·.1)) [] (by rw [e1]) (by rw [e1]; kernel_rfl) (by rw [e1]; kernel_rfl) (by rw [e2]; exact LaidIn.none)
  exact laidMetH_of_parts (h.of_heap (by simp [World.memory, World.forCall, Input.heap])) (by kernel_rfl)

set_option maxRecDepth 100000 in
theorem patternBack_lifted (os : Os) (started : os.Started) (H : Type) (enc : TypeId × Value → H) :
    ReturnsInHanded {} Tryd.checked os 8 .any (fun w args => (Rows.patternBackSpec.pre enc Tryd.prog Tryd.f8 [] false w args ∧ laidMetH Tryd.prog Rows.patternBackRow.laid w) ∧ sizedMet enc Tryd.prog Tryd.f8 (OpenSpec.ofChange Rows.patternBackSpec) false w args)
      (Rows.patternBackSpec.post enc Tryd.prog Tryd.f8 false true false false) := by
  refine returnsInHanded_of_change_and (C := Tryd.checked) (X := fun w _ => laidMetH Tryd.prog Rows.patternBackRow.laid w) (fun _ _ _ hh h => h.of_heap hh) ownP started (by kernel_rfl) Tryd.func8
    (ChangeSpec.witness_at (enc := enc) (C := Tryd.checked) (os := os) (X := fun w _ => laidMetH Tryd.prog Rows.patternBackRow.laid w) false (World.layVars Tryd.prog (World.holding Tryd.prog os ⟨#[], #[], []⟩) patternBackLaid) #[.agg #[.int .i64 0, .int .i64 0, .slice none 0 0], .int .i64 0] 8 (World.layVars_os _ _ _) (by kernel_rfl) (by kernel_rfl) (by kernel_rfl) (by kernel_rfl) (by kernel_rfl) (patternBackWorld_met os _)) ?_
  intro W0 base args ds gs before hval0 hW _ _ hL _
  have hval : ∀ (j : Nat) t v, Tryd.f8.params[j]? = some t → args[j]? = some v → Value.okWide Tryd.prog W0 .any base t v := hval0
  have hW' := hW
  obtain ⟨p, q, hA0, hV0, rfl, hfz, hnd⟩ := hW
  have hA : DataW.TrodAll enc Tryd.prog W0 0 (fun _ => true) true Tryd.f8.params.toList args.toList ds p := hA0
  have hV : DataW.TrodVars enc Tryd.prog W0 (fun _ => true) [] gs q := hV0
  rw [Tryd.params8] at hA hval
  obtain ⟨v0, v1, d0, d1, p0, p1, rfl, rfl, rfl, h0, h1⟩ := trodAll_two hA
  have hlt := DataW.TrodAll.lt hA
  have hlt0 : ∀ x ∈ p0, x.block < W0.heap.size := fun x hx => hlt x (List.mem_append_left _ hx)
  have hlt1 : ∀ x ∈ p1, x.block < W0.heap.size := fun x hx => hlt x (List.mem_append_right _ hx)
  obtain ⟨W, H', xs, a, c, rfl, hArg, hcap, hcm⟩ := open_pattern (hval 0 51 v0 rfl rfl) h0
  obtain ⟨k, rfl, rfl, rfl, hk⟩ := open_int Tryd.underlying3 (hval 1 3 v1 rfl rfl) h1
  obtain ⟨hD, hHn⟩ := laidMetH_iff.1 hL
  have hp : PowT W0 := powT_of_laid (by kernel_rfl) hD
  obtain ⟨rfl, rfl⟩ : gs = [] ∧ q = [] := by
    cases gs with
    | nil => exact ⟨rfl, hV⟩
    | cons g r => exact absurd hV (by intro h; cases h)
  have e1 : Rows.patternBackSpec.fn H ([d0, .lit (.int .i64 k)] ++ []) = { results := [.lit (.bool true)], args := [d0, .lit (.int .i64 k)] } := by simp [Rows.patternBackSpec]
  refine (law_back_all W H' k xs a c W0 hArg hcap hcm hp).mono fun e W' ⟨he, hb⟩ => ?_
  subst he
  refine ⟨_, rfl, _, _, _, [], p0 ++ [], [], hW', ?_, ?_, ?_, hb.frame _, fun h => by cases h⟩
  · rw [e1]; exact trodAll_mk1 (shut_bool Tryd.underlying4 true)
  · rw [e1]; exact trodAll_mk2 (Below.trod laidOutP (by kernel_rfl) (of_decide_eq_true (by kernel_rfl)) h0 hb hlt0) (shut_int Tryd.underlying3 hk)
  · rw [e1]; rfl

theorem patternBack_row : Rows.PatternBackSaid :=
  OpenClaim.holds_of_wide 8 Tryd.f8 rfl rfl rfl rfl rfl rfl rfl ⟨rfl, rfl, rfl, rfl, rfl⟩ rfl rfl rfl rfl rfl (by kernel_rfl) Tryd.func8 (by kernel_rfl)
    (of_decide_eq_true (by kernel_rfl)) (by unfold Func.isWrapper; rw [if_neg (of_decide_eq_false (by kernel_rfl))]; exact ⟨rfl, rfl⟩)
    (fun os started H enc _ => patternBack_lifted os started H enc)

theorem patternBack_holds : Rows.PatternBackCardSaid :=
  Claim7.holds_tied_plain_at .later [] [.data, .data, .data] true Rows.patternBackCard.stood.harness true
    patternBack_row (fun _ h => by cases h) (by kernel_rfl) (fun _ h => by cases h) patternBack_row_tie rfl ⟨rfl, rfl⟩ (by kernel_rfl) rfl
    (fun f fn hf hfn => by
      obtain rfl : f = 8 := Option.some.inj ((show Tryd.prog.funcNamed "eden/edenlaw1.PatternBack" = some 8 by kernel_rfl).symm.trans hf) |>.symm
      obtain rfl : fn = Tryd.f8 := (Option.some.inj (Tryd.func8.symm.trans hfn)).symm
      exact ⟨by kernel_rfl, fun j t ht => by
        rw [Tryd.params8] at ht
        have h9 : t = 51 ∨ t = 3 := by
          rcases j with _ | _ | j
          · left; simpa using ht.symm
          · right; simpa using ht.symm
          · simp at ht
        rcases h9 with rfl | rfl
        · exact (show Tryd.prog.wantsStandIn 51 = false by kernel_rfl)
        · exact (show Tryd.prog.wantsStandIn 3 = false by kernel_rfl)⟩)
    (by kernel_rfl)
#print axioms patternBack_holds
end Go.Proofs.YtjngjnkecnnmeaaDoor
