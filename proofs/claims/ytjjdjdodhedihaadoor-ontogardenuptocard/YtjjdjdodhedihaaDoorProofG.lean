/-
  The Garden of Eden theorem of Moore and Myhill, for every rule of a line: edenlaw2.OntoGarden returns true at every rule and every two words, and they read as they did.
  Conditions: the second form's (what is read holds at most 1048576 values and letters) and the card's own (the library's variables that it lists start as their texts lay them, which the card ties). The seat's pruned copy of the project stands for it.
-/
import Derived.Test.YtjjdjdodhedihaaDoorJg32
import Derived.Test.YtjjdjdodhedihaaDoorJg33
import Derived.Deep.DeepHandedRow
namespace Go.Proofs.YtjjdjdodhedihaaDoor
open Go.ChangeShapes Go.WideShapes Go.ChangeAt Go.RowKit
set_option linter.unusedVariables false

theorem lits_bulk {H : Type} (k : IntKind) : ∀ zs : List Int, Rows.uptoBulkAll (lits (H := H) k zs) = zs.length
  | [] => by simp [lits, Rows.uptoBulkAll]
  | z :: r => by
    have ih := lits_bulk (H := H) k r
    unfold lits at ih ⊢
    simp only [List.map_cons, Rows.uptoBulkAll, Rows.uptoBulk, List.length_cons]
    omega
theorem list_bulk {H : Type} {enc : TypeId × Value → H} {W : World} {a : Option Addr} {n c : Nat} {d : DataW H} {p : List MemPlace}
    (h : DataW.Trod enc Tryd.prog W 0 (fun _ => true) true 22 (.slice a n c) d p) : n ≤ Rows.uptoBulk d := by
  have q3 : Tryd.prog.cellsOf 3 = 1 := by kernel_rfl
  obtain ⟨fuel, h⟩ := h
  rcases open_ints Tryd.underlying22 Tryd.underlying3 q3 h with ⟨e, -⟩ | ⟨a', len, cap, zs, e, hb, hlc, hcm, hzl, hx, -, -⟩
  · simp [Value.cells] at e
    omega
  · simp [Value.cells] at e
    obtain ⟨rfl, rfl, rfl⟩ := e
    simp only [if_true] at hzl
    obtain ⟨rfl, -⟩ := Prod.mk.inj hx
    simp only [Rows.uptoBulk, lits_bulk, List.length_take]
    omega
theorem three_bulk {H : Type} {d0 d1 d2 : DataW H} (hk : Rows.uptoSmall H ([d0, d1, d2] ++ []) = true) : Rows.uptoBulk d1 ≤ 1048576 ∧ Rows.uptoBulk d2 ≤ 1048576 := by
  have h : Rows.uptoBulkAll ([d0, d1, d2] ++ []) ≤ 1048576 := of_decide_eq_true hk
  simp only [List.append_nil, Rows.uptoBulkAll] at h
  omega

theorem ontoGarden_reads (os : Os) {H : Type} (enc : TypeId × Value → H) : DataW.whole enc Tryd.prog ((World.layVars Tryd.prog (World.holding Tryd.prog os ⟨#[], #[], []⟩) Rows.ontoGardenUptoRow.laid).forCall (fun _ _ => 0) ⟨#[], #[.agg #[.int .i64 0, .int .i64 0, .int .i64 0, .int .i64 0, .int .i64 0, .slice none 0 0, .string ⟨#[]⟩], .slice none 0 0, .slice none 0 0], []⟩).memory Tryd.f3.params.toList Rows.ontoGardenSpec.vars false (#[.agg #[.int .i64 0, .int .i64 0, .int .i64 0, .int .i64 0, .int .i64 0, .slice none 0 0, .string ⟨#[]⟩], .slice none 0 0, .slice none 0 0] : Array Value).toList 8 = some ([.agg [.lit (.int .i64 0), .lit (.int .i64 0), .lit (.int .i64 0), .lit (.int .i64 0), .lit (.int .i64 0), .nil, .lit (.string [])], .nil, .nil], [], []) := by kernel_rfl
theorem ontoGarden_met (os : Os) (args : Array Value) : laidMetH Tryd.prog Rows.ontoGardenUptoRow.laid ((World.layVars Tryd.prog (World.holding Tryd.prog os ⟨#[], #[], []⟩) Rows.ontoGardenUptoRow.laid).forCall (fun _ _ => 0) ⟨#[], args, []⟩).memory := by
  have e1 : (Rows.ontoGardenUptoRow.laid.filter fun x => (Rows.ontoGardenUptoRow.laid.map (·.1)).contains x.1) = Rows.ontoGardenUptoRow.laid := List.filter_eq_self.2 fun x hx => List.contains_iff_mem.2 (List.mem_map.2 ⟨x, hx, rfl⟩)
  have e2 : (Rows.ontoGardenUptoRow.laid.filter fun x => !(Rows.ontoGardenUptoRow.laid.map (·.1)).contains x.1) = [] := List.filter_eq_nil_iff.2 fun x hx => by rw [List.contains_iff_mem.2 (List.mem_map.2 ⟨x, hx, rfl⟩)]; simp
  have h : laidMet Tryd.prog Rows.ontoGardenUptoRow.laid (World.layVars Tryd.prog (World.holding Tryd.prog os ⟨#[], #[], []⟩) Rows.ontoGardenUptoRow.laid) := laidMet_layVars (w0 := World.holding Tryd.prog os ⟨#[], #[], []⟩) (Rows.ontoGardenUptoRow.laid.map (·.1)) [] (by rw [e1]) (by rw [e1]; kernel_rfl) (by rw [e1]; kernel_rfl) (by rw [e2]; exact LaidIn.none)
  exact laidMetH_of_parts (h.of_heap (by simp [World.memory, World.forCall, Input.heap])) (by kernel_rfl)

set_option maxRecDepth 100000 in
theorem ontoGarden_lifted (os : Os) (started : os.Started) (H : Type) (enc : TypeId × Value → H) (F : Stop.Interp) :
    ReturnsInHanded {} Tryd.checked os 3 .any ((Rows.OpenSpec.upto Rows.ontoGardenSpec).preRow enc Tryd.prog Tryd.f3 Rows.ontoGardenUptoRow.domain false Rows.ontoGardenUptoRow.laid) (((Rows.OpenSpec.upto Rows.ontoGardenSpec).at F).post enc Tryd.prog Tryd.f3 false true false false) := by
  refine returnsInHanded_of_row (C := Tryd.checked) (s := Rows.OpenSpec.upto Rows.ontoGardenSpec) ownP started (by kernel_rfl) Tryd.func3
    (witness_row_at (enc := enc) (C := Tryd.checked) false (World.layVars Tryd.prog (World.holding Tryd.prog os ⟨#[], #[], []⟩) Rows.ontoGardenUptoRow.laid) #[.agg #[.int .i64 0, .int .i64 0, .int .i64 0, .int .i64 0, .int .i64 0, .slice none 0 0, .string ⟨#[]⟩], .slice none 0 0, .slice none 0 0] (World.layVars_os _ _ _) (by kernel_rfl) (by kernel_rfl) (by kernel_rfl)
      (OpenSpec.preRow_of_cond 8 (ontoGarden_reads os enc) (by kernel_rfl) (fun k hk => by cases hk; kernel_rfl) (by kernel_rfl) (ontoGarden_met os _))) ?_
  intro W0 base args ds gs before hval0 hW _ hcond _ hL _ _
  have hval : ∀ (j : Nat) t v, Tryd.f3.params[j]? = some t → args[j]? = some v → Value.okWide Tryd.prog W0 .any base t v := hval0
  have hW' := hW
  obtain ⟨p, q, hA0, hV0, rfl, hfz, hnd⟩ := hW
  have hA : DataW.TrodAll enc Tryd.prog W0 0 (fun _ => true) true Tryd.f3.params.toList args.toList ds p := hA0
  have hV : DataW.TrodVars enc Tryd.prog W0 (fun _ => true) [] gs q := hV0
  rw [Tryd.params3] at hA hval
  obtain ⟨v0, v1, v2, d0, d1, d2, p0, p1, p2, rfl, rfl, rfl, h0, h1, h2⟩ := trodAll_three hA
  have hlt := DataW.TrodAll.lt hA
  have hlt0 : ∀ x ∈ p0, x.block < W0.heap.size := fun x hx => hlt x (List.mem_append_left _ (List.mem_append_left _ hx))
  have hlt1 : ∀ x ∈ p1, x.block < W0.heap.size := fun x hx => hlt x (List.mem_append_left _ (List.mem_append_right _ hx))
  have hlt2 : ∀ x ∈ p2, x.block < W0.heap.size := fun x hx => hlt x (List.mem_append_right _ hx)
  obtain ⟨o, ra, rc, rfl, hR, hrcap, hrcm⟩ := open_ruleQ (hval 0 24 v0 rfl rfl) h0
  obtain ⟨ah, aa, ac, rfl, hAh, hacap, hacm⟩ := open_list (hval 1 22 v1 rfl rfl) h1
  obtain ⟨ws, wa, wc, rfl, hWs, hwcap, hwcm⟩ := open_list (hval 2 22 v2 rfl rfl) h2
  obtain ⟨hD, hHn⟩ := laidMetH_iff.1 hL
  have hz : TzTab W0 := tz_of_laid (by kernel_rfl) hD
  obtain ⟨rfl, rfl⟩ : gs = [] ∧ q = [] := by
    cases gs with
    | nil => exact ⟨rfl, hV⟩
    | cons g r => exact absurd hV (by intro h; cases h)
  have hb3 := three_bulk (hcond _ rfl)
  have b1 := list_bulk h1
  have b2 := list_bulk h2
  have e1 : Rows.ontoGardenSpec.fn H ([d0, d1, d2] ++ []) = { results := [.lit (.bool true)], args := [d0, d1, d2] } := by simp [Rows.ontoGardenSpec]
  refine (law_garden_all o ra o.table.length rc ah aa ac ws wa wc W0 hR hAh hWs hz (by omega) (by omega)).mono fun e W' ⟨he, hb⟩ => ?_
  subst he
  show ∃ v, _ ∧ Rows.ontoGardenSpec.post enc Tryd.prog Tryd.f3 false true false false W0 _ v W'
  refine ⟨_, rfl, _, _, _, [], p0 ++ (p1 ++ p2), [], hW', ?_, ?_, ?_, hb.frame _, fun h => by cases h⟩
  · rw [e1]; exact trodAll_mk1 (shut_bool Tryd.underlying4 true)
  · rw [e1]; exact trodAll_mk3 (Below.trod laidOutP (by kernel_rfl) (of_decide_eq_true (by kernel_rfl)) h0 hb hlt0) (Below.trod laidOutP (by kernel_rfl) (of_decide_eq_true (by kernel_rfl)) h1 hb hlt1) (Below.trod laidOutP (by kernel_rfl) (of_decide_eq_true (by kernel_rfl)) h2 hb hlt2)
  · rw [e1]; rfl

theorem ontoGarden_row : Rows.OntoGardenUptoSaid :=
  OpenClaim.holds_of_cond 3 Tryd.f3 rfl rfl rfl rfl rfl rfl rfl ⟨rfl, rfl, rfl, rfl, rfl⟩ rfl rfl rfl rfl rfl (by kernel_rfl) Tryd.func3 (by kernel_rfl)
    (of_decide_eq_true (by kernel_rfl)) (by unfold Func.isWrapper; rw [if_neg (of_decide_eq_false (by kernel_rfl))]; exact ⟨rfl, rfl⟩)
    (fun os started H enc _ F => by rw [OpenClaim.pre_eq_preRow]; exact ontoGarden_lifted os started H enc F)

theorem ontoGarden_holds : Rows.OntoGardenUptoCardSaid :=
  Claim7.holds_tied_plain_at .later [] _ _ _ _
    ontoGarden_row (fun _ h => by cases h) (by kernel_rfl) (fun _ h => by cases h) ontoGardenUpto_row_tie rfl ⟨rfl, rfl⟩ (by kernel_rfl) rfl
    (fun f fn hf hfn => by
      obtain rfl : f = 3 := Option.some.inj ((show Tryd.prog.funcNamed "eden/edenlaw2.OntoGarden" = some 3 by kernel_rfl).symm.trans hf) |>.symm
      obtain rfl : fn = Tryd.f3 := (Option.some.inj (Tryd.func3.symm.trans hfn)).symm
      exact ⟨by kernel_rfl, fun j t ht => by
        rw [Tryd.params3] at ht
        have h9 : t = 24 ∨ t = 22 := by
          rcases j with _ | _ | _ | j
          · left; simpa using ht.symm
          · right; simpa using ht.symm
          · right; simpa using ht.symm
          · simp at ht
        rcases h9 with h9 | h9
        · subst h9; exact (show Tryd.prog.wantsStandIn 24 = false by kernel_rfl)
        · subst h9; exact (show Tryd.prog.wantsStandIn 22 = false by kernel_rfl)⟩)
    (by kernel_rfl)
#print axioms ontoGarden_holds
end Go.Proofs.YtjjdjdodhedihaaDoor
