/-
  Any text is a machine's, or which line is wrong: edenlaw4.CounterReads returns true at every text, and it reads as it did.
  Conditions: the second form's (a text of at most 1048576 letters) and the card's own (the variables that it lists start as their texts lay them, which the card ties). The seat's pruned copy of the project stands for it.
-/
import Derived.Test.YtncinpkbiphpoaaDoorZr12
import Derived.Test.YtncinpkbiphpoaaDoorZr13
import Derived.Deep.DeepHandedRow
namespace Go.Proofs.YtncinpkbiphpoaaDoor
open Go.ChangeShapes Go.WideShapes Go.ChangeAt Go.RowKit
open Go.ChangeMaps (open_string shut_string)
set_option linter.unusedVariables false

def counterReadsLaid : List (String × DataW Unit) := Rows.counterReadsUptoRow.laid.filter fun x => x.2.handleName?.isNone
theorem str_bulk {H : Type} {l : List UInt8} (hk : Rows.uptoSmall H ([.lit (.string l)] ++ []) = true) : l.length ≤ 1048576 := by
  have h : Rows.uptoBulkAll ([.lit (.string l)] ++ [] : List (DataW H)) ≤ 1048576 := of_decide_eq_true hk
  simp only [List.append_nil, Rows.uptoBulkAll, Rows.uptoBulk] at h
  omega
theorem counterReads_reads (os : Os) {H : Type} (enc : TypeId × Value → H) : DataW.whole enc Tryd.prog ((World.layVars Tryd.prog (layWorldP (World.holding Tryd.prog os ⟨#[], #[], []⟩)) counterReadsLaid).forCall (fun _ _ => 0) ⟨#[], #[.string ⟨#[]⟩], []⟩).memory Tryd.f3.params.toList Rows.counterReadsSpec.vars false (#[.string ⟨#[]⟩] : Array Value).toList 8 = some ([.lit (.string [])], [], []) := by kernel_rfl
theorem counterReads_met (os : Os) (args : Array Value) : laidMetH Tryd.prog Rows.counterReadsUptoRow.laid ((World.layVars Tryd.prog (layWorldP (World.holding Tryd.prog os ⟨#[], #[], []⟩)) counterReadsLaid).forCall (fun _ _ => 0) ⟨#[], args, []⟩).memory := by
  have e1 : (counterReadsLaid.filter fun x => (counterReadsLaid.map (·.1)).contains x.1) = counterReadsLaid := List.filter_eq_self.2 fun x hx => List.contains_iff_mem.2 (List.mem_map.2 ⟨x, hx, rfl⟩)
  have e2 : (counterReadsLaid.filter fun x => !(counterReadsLaid.map (·.1)).contains x.1) = [] := List.filter_eq_nil_iff.2 fun x hx => by rw [List.contains_iff_mem.2 (List.mem_map.2 ⟨x, hx, rfl⟩)]; simp
  have h : laidMet Tryd.prog counterReadsLaid (World.layVars Tryd.prog (layWorldP (World.holding Tryd.prog os ⟨#[], #[], []⟩)) counterReadsLaid) := laidMet_layVars (w0 := layWorldP (World.holding Tryd.prog os ⟨#[], #[], []⟩)) (counterReadsLaid.map (·.1)) [] (by rw [e1]) (by rw [e1]; kernel_rfl) (by rw [e1]; kernel_rfl) (by rw [e2]; exact LaidIn.none)
  exact laidMetH_of_parts (h.of_heap (by simp [World.memory, World.forCall, Input.heap])) (by kernel_rfl)

set_option maxRecDepth 100000 in
theorem counterReads_lifted (os : Os) (started : os.Started) (H : Type) (enc : TypeId × Value → H) (F : Stop.Interp) :
    ReturnsInHanded {} Tryd.checked os 3 .any ((Rows.OpenSpec.upto Rows.counterReadsSpec).preRow enc Tryd.prog Tryd.f3 Rows.counterReadsUptoRow.domain false Rows.counterReadsUptoRow.laid) (((Rows.OpenSpec.upto Rows.counterReadsSpec).at F).post enc Tryd.prog Tryd.f3 false true false false) := by
  refine returnsInHanded_of_row (C := Tryd.checked) (s := Rows.OpenSpec.upto Rows.counterReadsSpec) ownP started (by kernel_rfl) Tryd.func3
    (witness_row_at (enc := enc) (C := Tryd.checked) false (World.layVars Tryd.prog (layWorldP (World.holding Tryd.prog os ⟨#[], #[], []⟩)) counterReadsLaid) #[.string ⟨#[]⟩] (World.layVars_os _ _ _) (by kernel_rfl) (by kernel_rfl) (by kernel_rfl)
      (OpenSpec.preRow_of_cond 8 (counterReads_reads os enc) (by kernel_rfl) (fun k hk => by cases hk; kernel_rfl) (by kernel_rfl) (counterReads_met os _))) ?_
  intro W0 base args ds gs before hval0 hW _ hcond _ hL _ _
  have hval : ∀ (j : Nat) t v, Tryd.f3.params[j]? = some t → args[j]? = some v → Value.okWide Tryd.prog W0 .any base t v := hval0
  have hW' := hW
  obtain ⟨p, q, hA0, hV0, rfl, hfz, hnd⟩ := hW
  have hA : DataW.TrodAll enc Tryd.prog W0 0 (fun _ => true) true Tryd.f3.params.toList args.toList ds p := hA0
  have hV : DataW.TrodVars enc Tryd.prog W0 (fun _ => true) [] gs q := hV0
  rw [Tryd.params3] at hA hval
  obtain ⟨v0, d0, rfl, rfl, h0⟩ := trodAll_one hA
  obtain ⟨s, rfl, rfl, rfl, hs⟩ := open_string Tryd.underlying9 (hval 0 9 v0 rfl rfl) h0
  obtain ⟨hD, hHn⟩ := laidMetH_iff.1 hL
  have hg : Handle W0 := handle_laid (show handlesMet Tryd.prog [("errors.errorType", Rows.laid_errors_errorType)] W0 from hHn)
  have hu : UsT W0 := used_of_laid (by kernel_rfl) hD
  have hw : WoT W0 := words_of_laid (by kernel_rfl) hD
  obtain ⟨rfl, rfl⟩ : gs = [] ∧ q = [] := by
    cases gs with
    | nil => exact ⟨rfl, hV⟩
    | cons g r => exact absurd hV (by intro h; cases h)
  have hb3 := str_bulk (hcond _ rfl)
  have e1 : Rows.counterReadsSpec.fn H ([.lit (.string s.data.toList)] ++ []) = { results := [.lit (.bool true)], args := [.lit (.string s.data.toList)] } := by simp [Rows.counterReadsSpec]
  have lw := law_reads_all s.data.toList W0 hb3 hu hw hg
  rw [show (⟨s.data.toList.toArray⟩ : ByteArray) = s by simp] at lw
  refine lw.mono fun e W' ⟨he, hb⟩ => ?_
  subst he
  show ∃ v, _ ∧ Rows.counterReadsSpec.post enc Tryd.prog Tryd.f3 false true false false W0 _ v W'
  refine ⟨_, rfl, _, _, _, [], [], [], hW', ?_, ?_, ?_, hb.frame _, fun h => by cases h⟩
  · rw [e1]; exact trodAll_mk1 (shut_bool Tryd.underlying4 true)
  · rw [e1]; exact trodAll_mk1 (shut_string Tryd.underlying9 hs)
  · rw [e1]; rfl

theorem counterReads_row : Rows.CounterReadsUptoSaid :=
  OpenClaim.holds_of_cond 3 Tryd.f3 rfl rfl rfl rfl rfl rfl rfl ⟨rfl, rfl, rfl, rfl, rfl⟩ rfl rfl rfl rfl rfl (by kernel_rfl) Tryd.func3 (by kernel_rfl)
    (of_decide_eq_true (by kernel_rfl)) (by unfold Func.isWrapper; rw [if_neg (of_decide_eq_false (by kernel_rfl))]; exact ⟨rfl, rfl⟩)
    (fun os started H enc _ F => by rw [OpenClaim.pre_eq_preRow]; exact counterReads_lifted os started H enc F)

theorem counterReads_holds : Rows.CounterReadsUptoCardSaid :=
  Claim7.holds_tied_plain_at .later [] _ _ _ _
    counterReads_row (fun _ h => by cases h) (by kernel_rfl) (fun _ h => by cases h) counterReadsUpto_row_tie rfl ⟨rfl, rfl⟩ (by kernel_rfl) rfl
    (fun f fn hf hfn => by
      obtain rfl : f = 3 := Option.some.inj ((show Tryd.prog.funcNamed "eden/edenlaw4.CounterReads" = some 3 by kernel_rfl).symm.trans hf) |>.symm
      obtain rfl : fn = Tryd.f3 := (Option.some.inj (Tryd.func3.symm.trans hfn)).symm
      exact ⟨by kernel_rfl, fun j t ht => by
        rw [Tryd.params3] at ht
        have h9 : t = 9 := by
          rcases j with _ | j
          · simpa using ht.symm
          · simp at ht
        subst h9
        exact (show Tryd.prog.wantsStandIn 9 = false by kernel_rfl)⟩)
    (by kernel_rfl)
#print axioms counterReads_holds
end Go.Proofs.YtncinpkbiphpoaaDoor
