/-
  Fractions count as the machine does, and a machine's text is read as it: edenlaw4.CounterMeans returns true at every list of lines, every counters and number, and they read as they did.
  Conditions: the card's own (the library's variables that it lists start as their texts lay them, which the card ties; a text or a slice takes at most 2^47 - 4096 bytes, as every row says). The seat's pruned copy of the project stands for it.
-/
import Derived.Test.YtcfoeadfhkojeaaGreatDoorZm22
import Derived.Test.YtcfoeadfhkojeaaGreatDoorZm23
namespace Go.Proofs.YtcfoeadfhkojeaaGreatDoor
open Go.ChangeShapes Go.WideShapes Go.ChangeAt Go.RowKit
set_option linter.unusedVariables false

def counterMeansLaid : List (String × DataW Unit) := Rows.counterMeansRow.laid.filter fun x => x.2.handleName?.isNone
theorem counterMeansWorld_met (os : Os) (args : Array Value) : laidMetH Tryz.prog Rows.counterMeansRow.laid ((World.layVars Tryz.prog (layWorldP (World.holding Tryz.prog os ⟨#[], #[], []⟩)) counterMeansLaid).forCall (fun _ _ => 0) ⟨#[], args, []⟩).memory := by
  have e1 : (counterMeansLaid.filter fun x => (counterMeansLaid.map (·.1)).contains x.1) = counterMeansLaid := List.filter_eq_self.2 fun x hx => List.contains_iff_mem.2 (List.mem_map.2 ⟨x, hx, rfl⟩)
  have e2 : (counterMeansLaid.filter fun x => !(counterMeansLaid.map (·.1)).contains x.1) = [] := List.filter_eq_nil_iff.2 fun x hx => by rw [List.contains_iff_mem.2 (List.mem_map.2 ⟨x, hx, rfl⟩)]; simp
  have h : laidMet Tryz.prog counterMeansLaid (World.layVars Tryz.prog (layWorldP (World.holding Tryz.prog os ⟨#[], #[], []⟩)) counterMeansLaid) := laidMet_layVars (w0 := layWorldP (World.holding Tryz.prog os ⟨#[], #[], []⟩)) (counterMeansLaid.map (·.1)) [] (by rw [e1]) (by rw [e1]; kernel_rfl) (by rw [e1]; kernel_rfl) (by rw [e2]; exact LaidIn.none)
  exact laidMetH_of_parts (h.of_heap (by simp [World.memory, World.forCall, Input.heap])) (by kernel_rfl)

set_option maxRecDepth 100000 in
theorem counterMeans_lifted (os : Os) (started : os.Started) (H : Type) (enc : TypeId × Value → H) :
    ReturnsInHanded {} Tryz.checked os 3 .any (fun w args => (Rows.counterMeansSpec.pre enc Tryz.prog Tryz.f3 [] false w args ∧ laidMetH Tryz.prog Rows.counterMeansRow.laid w) ∧ sizedMet enc Tryz.prog Tryz.f3 (OpenSpec.ofChange Rows.counterMeansSpec) false w args)
      (Rows.counterMeansSpec.post enc Tryz.prog Tryz.f3 false true false false) := by
  refine returnsInHanded_of_change_and (C := Tryz.checked) (X := fun w _ => laidMetH Tryz.prog Rows.counterMeansRow.laid w) (fun _ _ _ hh h => h.of_heap hh) ownP started (by kernel_rfl) Tryz.func3
    (ChangeSpec.witness_at (enc := enc) (C := Tryz.checked) (os := os) (X := fun w _ => laidMetH Tryz.prog Rows.counterMeansRow.laid w) false (World.layVars Tryz.prog (layWorldP (World.holding Tryz.prog os ⟨#[], #[], []⟩)) counterMeansLaid) #[.slice none 0 0, .slice none 0 0, .int .i64 0] 8 (World.layVars_os _ _ _) (by kernel_rfl) (by kernel_rfl) (by kernel_rfl) (by kernel_rfl) (by kernel_rfl) (counterMeansWorld_met os _)) ?_
  intro W0 base args ds gs before hval0 hW _ _ hL _
  have hval : ∀ (j : Nat) t v, Tryz.f3.params[j]? = some t → args[j]? = some v → Value.okWide Tryz.prog W0 .any base t v := hval0
  have hW' := hW
  obtain ⟨p, q, hA0, hV0, rfl, hfz, hnd⟩ := hW
  have hA : DataW.TrodAll enc Tryz.prog W0 0 (fun _ => true) true Tryz.f3.params.toList args.toList ds p := hA0
  have hV : DataW.TrodVars enc Tryz.prog W0 (fun _ => true) [] gs q := hV0
  rw [Tryz.params3] at hA hval
  obtain ⟨v0, v1, v2, d0, d1, d2, p0, p1, p2, rfl, rfl, rfl, h0, h1, h2⟩ := trodAll_three hA
  have hlt := DataW.TrodAll.lt hA
  have hlt0 : ∀ x ∈ p0, x.block < W0.heap.size := fun x hx => hlt x (List.mem_append_left _ (List.mem_append_left _ hx))
  have hlt1 : ∀ x ∈ p1, x.block < W0.heap.size := fun x hx => hlt x (List.mem_append_left _ (List.mem_append_right _ hx))
  have hlt2 : ∀ x ∈ p2, x.block < W0.heap.size := fun x hx => hlt x (List.mem_append_right _ hx)
  obtain ⟨xs, sa, sc, rfl, hI⟩ := open_ins (hval 0 22 v0 rfl rfl) h0
  obtain ⟨ts, ta, tc, rfl, hTab, htcap, htcm⟩ := open_list (hval 1 23 v1 rfl rfl) h1
  obtain ⟨k, rfl, rfl, rfl, hk⟩ := open_int Tryz.underlying3 (hval 2 3 v2 rfl rfl) h2
  obtain ⟨hD, hHn⟩ := laidMetH_iff.1 hL
  have hg : Handle W0 := handle_laid (show handlesMet Tryz.prog [("errors.errorType", Rows.laid_errors_errorType)] W0 from hHn)
  obtain ⟨eb, hE⟩ := end_of_laid (by kernel_rfl) hD
  have hu : UsT W0 := used_of_laid (by kernel_rfl) hD
  have hw : WoT W0 := words_of_laid (by kernel_rfl) hD
  have ht : PrT W0 := primes_of_laid (by kernel_rfl) hD
  obtain ⟨rfl, rfl⟩ : gs = [] ∧ q = [] := by
    cases gs with
    | nil => exact ⟨rfl, hV⟩
    | cons g r => exact absurd hV (by intro h; cases h)
  have e1 : Rows.counterMeansSpec.fn H ([d0, d1, .lit (.int .i64 k)] ++ []) = { results := [.lit (.bool true)], args := [d0, d1, .lit (.int .i64 k)] } := by simp [Rows.counterMeansSpec]
  refine (law_means_all xs sa xs.length sc ts ta ts.length tc k eb W0 hI hTab hu hw ht hE hg).mono fun e W' ⟨he, hb⟩ => ?_
  subst he
  refine ⟨_, rfl, _, _, _, [], p0 ++ (p1 ++ []), [], hW', ?_, ?_, ?_, hb.frame _, fun h => by cases h⟩
  · rw [e1]; exact trodAll_mk1 (shut_bool Tryz.underlying4 true)
  · rw [e1]; exact trodAll_mk3 (Below.trod laidOutP (by kernel_rfl) (of_decide_eq_true (by kernel_rfl)) h0 hb hlt0) (Below.trod laidOutP (by kernel_rfl) (of_decide_eq_true (by kernel_rfl)) h1 hb hlt1) (shut_int Tryz.underlying3 hk)
  · rw [e1]; rfl

theorem counterMeans_row : Rows.CounterMeansSaid :=
  OpenClaim.holds_of_wide 3 Tryz.f3 rfl rfl rfl rfl rfl rfl rfl ⟨rfl, rfl, rfl, rfl, rfl⟩ rfl rfl rfl rfl rfl (by kernel_rfl) Tryz.func3 (by kernel_rfl)
    (of_decide_eq_true (by kernel_rfl)) (by unfold Func.isWrapper; rw [if_neg (of_decide_eq_false (by kernel_rfl))]; exact ⟨rfl, rfl⟩)
    (fun os started H enc _ => counterMeans_lifted os started H enc)

theorem counterMeans_holds : Rows.CounterMeansCardSaid :=
  Claim7.holds_tied_plain_at .later [] [.data, .data, .data, .data, .handle, .sentinel, .data, .data, .data, .pinned] true Rows.counterMeansCard.stood.harness true
    counterMeans_row (fun _ h => by cases h) (by kernel_rfl) (fun _ h => by cases h) counterMeans_row_tie rfl ⟨rfl, rfl⟩ (by kernel_rfl) rfl
    (fun f fn hf hfn => by
      obtain rfl : f = 3 := Option.some.inj ((show Tryz.prog.funcNamed "eden/edenlaw4.CounterMeans" = some 3 by kernel_rfl).symm.trans hf) |>.symm
      obtain rfl : fn = Tryz.f3 := (Option.some.inj (Tryz.func3.symm.trans hfn)).symm
      exact ⟨by kernel_rfl, fun j t ht => by
        rw [Tryz.params3] at ht
        have h9 : t = 22 ∨ t = 23 ∨ t = 3 := by
          rcases j with _ | _ | _ | j
          · left; simpa using ht.symm
          · right; left; simpa using ht.symm
          · right; right; simpa using ht.symm
          · simp at ht
        rcases h9 with rfl | rfl | rfl
        · exact (show Tryz.prog.wantsStandIn 22 = false by kernel_rfl)
        · exact (show Tryz.prog.wantsStandIn 23 = false by kernel_rfl)
        · exact (show Tryz.prog.wantsStandIn 3 = false by kernel_rfl)⟩)
    (by kernel_rfl)
#print axioms counterMeans_holds
end Go.Proofs.YtcfoeadfhkojeaaGreatDoor

